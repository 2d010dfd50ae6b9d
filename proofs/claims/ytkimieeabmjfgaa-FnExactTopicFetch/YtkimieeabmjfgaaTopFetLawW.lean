/- spec.TopicFetch. The closure of runFor, the operation being fetch. impl.TopicFetch; the two answer alike. The walk of the law on TopicFetch. -/
import Derived.Test.YtkimieeabmjfgaaTpAckSW
import Derived.Test.YtkimieeabmjfgaaTpRIW
import Derived.BigQuiet
import Derived.Deep.RegionLaw
import Derived.Deep.RegionHeld3
import Derived.Deep.DeepCutAuto
import Derived.Test.YtkimieeabmjfgaaTpRfMW
import Derived.Test.YtkimieeabmjfgaaTpRunDW
import Derived.Test.YtkimieeabmjfgaaTpArgW
namespace Go.Proofs.Ytkimieeabmjfgaa
open Go.RowKit Go.Deep
set_option linter.unusedVariables false
set_option maxRecDepth 1000000
theorem l01Min_fet (a b : Int) (w : World) : Calls Try.prog 42 #[.int .i64 a, .int .i64 b] w fun e w' => e = .returned (.int .i64 (min a b)) ∧ w' = w := by
  by_cases h : a < b
  · go_enter Try.func42, Try.ntmps42
    go_wp2
    go_ret
    exact ⟨retI (by show a = min a b; omega), rfl⟩
  · go_enter Try.func42, Try.ntmps42
    go_wp2
    go_ret
    exact ⟨retI (by show b = min a b; omega), rfl⟩
/-- What lies there once the texts are taken out. -/
structure FetAft (w v0 : World) (g : Nat) (nm : ByteArray) (bs : Int) (H : List ByteArray) (hg : List Grp) (bg : Nat) (A8 : Option Addr) (a8 b8 : Nat) (A B : Option Addr) (c d : Nat) (G : List Grp) (w7 : World) : Prop where
  P : Blk w7 g 29 [.string nm, .int .i64 bs, .slice A8 H.length a8, .slice (some ⟨bg, 0, none⟩) hg.length b8]
  K : Blk w7 w.heap.size 29 [.string nm, .int .i64 bs, .slice A H.length c, .slice B G.length d]
  O : Blk w7 (w.heap.size + 1) 31 [.string ⟨#[]⟩, .int .i64 0, .slice none 0 0, .slice none 0 0, .slice none 0 0, .int .i64 0, .int .i64 0]
  S : OwnS w7 v0.heap.size (.slice A8 H.length a8) H
  G' : OwnG w7 v0.heap.size (.slice (some ⟨bg, 0, none⟩) hg.length b8) hg
  b : Below w.heap.size w w7
theorem fet_end {w w9 : World} {lo : Nat} {nm : ByteArray} {bs ak : Int} {H N : List ByteArray} {hg : List Grp} {A8 B8 A7 : Option Addr} {a8 b8 a7 : Nat} {R : Ans} (h : R = ⟨⟨nm, bs, H, hg⟩, N, ak, 0⟩) (hlo : w.heap.size ≤ lo) (hS : OwnS w9 lo (.slice A8 H.length a8) H) (hG : OwnG w9 lo (.slice B8 hg.length b8) hg) (hT : OwnS w9 lo (.slice A7 N.length a7) N) (hap : Apart A8 A7) (hb : Below w.heap.size w w9) :
    ImO w w9 (.returned (outV nm bs (.slice A8 H.length a8) (.slice B8 hg.length b8) (.slice A7 N.length a7) ak 0)) R := by
  subst h
  exact ⟨A8, a8, B8, b8, A7, a7, rfl, Sl.of_own (own_base hS hlo) rfl, Sl.of_own (own_base hG hlo) rfl, Sl.of_own (own_base hT hlo) rfl, hap, Cap.own hS, Cap.own hG, hb⟩
/-- What lies there once l07Begin has answered. -/
def FetCut (v0 : World) (nm : ByteArray) (bs : Int) (H : List ByteArray) (hg : List Grp) (kk : Nat) (cc : Int) (y7 y8 y9 : Value) (wx : World) : Prop :=
  ∃ (g : Nat) (A8 : Option Addr) (a8 : Nat) (B8 : Option Addr) (b8 : Nat) (L : List Grp) (k code : Int), y7 = .pointer (some ⟨g, 0, none⟩) ∧ y8 = .int .i64 k ∧ y9 = .int .i64 code ∧ code = cc ∧ v0.heap.size ≤ g ∧ Blk wx g 29 [.string nm, .int .i64 bs, .slice A8 H.length a8, .slice B8 (List.length L) b8] ∧
    (code = 0 → L = hg ∧ k = (kk : Int) ∧ OwnS wx v0.heap.size (.slice A8 H.length a8) H ∧ OwnG wx v0.heap.size (.slice B8 (List.length L) b8) L) ∧ Below v0.heap.size v0 wx
theorem FetCut.late {v0 w1 : World} {nm : ByteArray} {bs : Int} {H : List ByteArray} {hg : List Grp} {kk : Nat} {cc : Int} (h : Below v0.drew.heap.size v0.drew w1) {A8 : Option Addr} {a8 : Nat} {B8 : Option Addr} {b8 : Nat} {L : List Grp} {k code : Int} (h1 : code = cc)
    (h2 : code = 0 → L = hg ∧ k = (kk : Int) ∧ OwnS w1 v0.drew.heap.size (.slice A8 H.length a8) H ∧ OwnG w1 v0.drew.heap.size (.slice B8 (List.length L) b8) L) :
    FetCut v0 nm bs H hg kk cc (.pointer (some ⟨w1.heap.size, 0, none⟩)) (.int .i64 k) (.int .i64 code) (w1.alloc (.cells #[.string nm, .int .i64 bs, .slice A8 H.length a8, .slice B8 (List.length L) b8] 29)) := by
  have hb : Below v0.heap.size v0 w1 := (below_drew (Below.refl _ v0)).trans h
  have al := below_box w1 (.cells #[.string nm, .int .i64 bs, .slice A8 H.length a8, .slice B8 (List.length L) b8] 29)
  refine ⟨w1.heap.size, A8, a8, B8, b8, L, k, code, rfl, rfl, rfl, h1, hb.size, Blk.fresh w1 29 [_, _, _, _], fun e => ?_, hb.trans (al.mono hb.size)⟩
  obtain ⟨e1, e2, s, q⟩ := h2 e
  exact ⟨e1, e2, row_below s al (Nat.le_refl _), row_below q al (Nat.le_refl _)⟩
theorem FetCut.of {v0 w1 : World} {nm : ByteArray} {bs : Int} {H : List ByteArray} {hg : List Grp} {kk : Nat} {cc : Int} (h : Below (v0.alloc (.cells #[.string ⟨#[]⟩, .int .i64 0, .slice none 0 0, .slice none 0 0] 29)).drew.heap.size (v0.alloc (.cells #[.string ⟨#[]⟩, .int .i64 0, .slice none 0 0, .slice none 0 0] 29)).drew w1) {A8 : Option Addr} {a8 : Nat} {B8 : Option Addr} {b8 : Nat} {L : List Grp} {k code : Int} (h1 : code = cc)
    (h2 : code = 0 → L = hg ∧ k = (kk : Int) ∧ OwnS w1 (v0.alloc (.cells #[.string ⟨#[]⟩, .int .i64 0, .slice none 0 0, .slice none 0 0] 29)).drew.heap.size (.slice A8 H.length a8) H ∧ OwnG w1 (v0.alloc (.cells #[.string ⟨#[]⟩, .int .i64 0, .slice none 0 0, .slice none 0 0] 29)).drew.heap.size (.slice B8 (List.length L) b8) L) :
    FetCut v0 nm bs H hg kk cc (.pointer (some ⟨v0.heap.size, 0, none⟩)) (.int .i64 k) (.int .i64 code) ((((w1.setCell ⟨v0.heap.size, 0, none⟩ (.string nm)).setCell ⟨v0.heap.size, 1, none⟩ (.int .i64 bs)).setCell ⟨v0.heap.size, 2, none⟩ (.slice A8 H.length a8)).setCell ⟨v0.heap.size, 3, none⟩ (.slice B8 (List.length L) b8)) := by
  have hZ : Blk (v0.alloc (.cells #[.string ⟨#[]⟩, .int .i64 0, .slice none 0 0, .slice none 0 0] 29)).drew v0.heap.size 29 [.string ⟨#[]⟩, .int .i64 0, .slice none 0 0, .slice none 0 0] := Blk.fresh v0 29 [.string ⟨#[]⟩, .int .i64 0, .slice none 0 0, .slice none 0 0]
  have hZ1 := hZ.below h hZ.lt
  have hs0 : v0.heap.size ≤ (v0.alloc (.cells #[.string ⟨#[]⟩, .int .i64 0, .slice none 0 0, .slice none 0 0] 29)).drew.heap.size := by simp
  have hs1 : v0.heap.size < (v0.alloc (.cells #[.string ⟨#[]⟩, .int .i64 0, .slice none 0 0, .slice none 0 0] 29)).drew.heap.size := by simp
  have hb : Below v0.heap.size v0 w1 := (below_drew ((Below.refl v0.heap.size v0).alloc (Nat.le_refl _) (.cells #[.string ⟨#[]⟩, .int .i64 0, .slice none 0 0, .slice none 0 0] 29))).trans (h.mono hs0)
  have Z9 := (((hZ1.put 0 (.string nm)).put 1 (.int .i64 bs)).put 2 (.slice A8 H.length a8)).put 3 (.slice B8 (List.length L) b8)
  simp only [List.set_cons_succ, List.set_cons_zero] at Z9
  refine ⟨v0.heap.size, A8, a8, B8, b8, L, k, code, rfl, rfl, rfl, h1, Nat.le_refl _, Z9, fun e => ?_, (((hb.setCell (p := ⟨v0.heap.size, 0, none⟩) (Nat.le_refl _) _).setCell (p := ⟨v0.heap.size, 1, none⟩) (Nat.le_refl _) _).setCell (p := ⟨v0.heap.size, 2, none⟩) (Nat.le_refl _) _).setCell (p := ⟨v0.heap.size, 3, none⟩) (Nat.le_refl _) _⟩
  obtain ⟨e1, e2, s, q⟩ := h2 e
  exact ⟨e1, e2, own_base (row_far (row_far (row_far (row_far s (p := ⟨v0.heap.size, 0, none⟩) hs1 _) (p := ⟨v0.heap.size, 1, none⟩) hs1 _) (p := ⟨v0.heap.size, 2, none⟩) hs1 _) (p := ⟨v0.heap.size, 3, none⟩) hs1 _) hs0, own_base (row_far (row_far (row_far (row_far q (p := ⟨v0.heap.size, 0, none⟩) hs1 _) (p := ⟨v0.heap.size, 1, none⟩) hs1 _) (p := ⟨v0.heap.size, 2, none⟩) hs1 _) (p := ⟨v0.heap.size, 3, none⟩) hs1 _) hs0⟩
set_option maxHeartbeats 8000000 in
theorem specTopicFetch_im (t : Tpc) (gn : ByteArray) (n : Int) (A : Option Addr) (c : Nat) (B : Option Addr) (d : Nat) (w : World) (hf : t.fits) (hs : gn.size ≤ maxLen) (hA : Strs w w.heap.size A t.held) (hB : Grs w w.heap.size B t.groups) (hc : Cap A t.held.length c) (hd : Cap B t.groups.length d) :
    Calls Try.prog 11 #[topV t.name t.base (.slice A t.held.length c) (.slice B t.groups.length d), .string gn, .int .i64 n] w fun e w' => ImO w w' e (fetT t gn n) := by
  obtain ⟨okv, HOK⟩ : ∃ x, Hid (inB n 0 20 = x) := ⟨_, Lib.hid rfl⟩
  have ISc := Lib.hid (fun W => is3 HOK.out W)
  have BG := Lib.hid (fun W (h : Below w.heap.size w W) => l07Begin_any t gn okv A c B d W hf hs (hA.on h) (hB.on h) hc hd)
  have hkl := hasG_lt t gn
  have HT := Lib.hid (beg_top (t := t) (g := gn) (ok := okv))
  have HO2 := Lib.hid (beg_okv (t := t) (g := gn) (ok := okv))
  have HIN := Lib.hid (hasG_in t gn)
  have HI := Lib.hid (fetT_ill (t := t) (gn := gn) (n := n))
  have HZ0 := Lib.hid (fetT_ok (t := t) (gn := gn) (n := n))
  rw [HOK.out] at HI HZ0
  obtain ⟨cc, HCC⟩ : ∃ x, Hid (begC t gn okv = x) := ⟨_, Lib.hid rfl⟩
  obtain ⟨hg, HHG⟩ : ∃ x, Hid (hasG t gn = x) := ⟨_, Lib.hid rfl⟩
  obtain ⟨kk, HKK⟩ : ∃ x, Hid (posG t.groups gn = x) := ⟨_, Lib.hid rfl⟩
  obtain ⟨R, HRR⟩ : ∃ x, Hid (fetT t gn n = x) := ⟨_, Lib.hid rfl⟩
  have HE0 := Lib.hid (fetchA_eq t gn n)
  rw [HHG.out, HKK.out] at hkl HE0
  rw [HCC.out, HHG.out, HKK.out] at BG
  rw [HRR.out, HCC.out] at HI HZ0
  rw [HRR.out]
  rw [HCC.out] at HT HO2
  rw [HHG.out, HKK.out] at HZ0 HIN
  obtain ⟨nm, bs, H, G⟩ := t
  simp only at HKK hA hB hc hd BG HT HZ0 HIN HE0 ⊢
  have K := (Blk.fresh w 29 [.string nm, .int .i64 bs, .slice A H.length c, .slice B G.length d]).alloc (.cells #[.string ⟨#[]⟩, .int .i64 0, .slice none 0 0, .slice none 0 0, .slice none 0 0, .int .i64 0, .int .i64 0] 31)
  have O := Blk.fresh (w.alloc (.cells #[.string nm, .int .i64 bs, .slice A H.length c, .slice B G.length d] 29)) 31 [.string ⟨#[]⟩, .int .i64 0, .slice none 0 0, .slice none 0 0, .slice none 0 0, .int .i64 0, .int .i64 0]
  have hb : Below w.heap.size w ((w.alloc (.cells #[.string nm, .int .i64 bs, .slice A H.length c, .slice B G.length d] 29)).alloc (.cells #[.string ⟨#[]⟩, .int .i64 0, .slice none 0 0, .slice none 0 0, .slice none 0 0, .int .i64 0, .int .i64 0] 31)) := ((Below.refl _ _).alloc (Nat.le_refl _) _).alloc (by simp) _
  simp only [World.size_alloc] at K O
  replace K : Blk ((w.alloc (.cells #[.string nm, .int .i64 bs, .slice A H.length c, .slice B G.length d] 29)).alloc (.cells #[.string ⟨#[]⟩, .int .i64 0, .slice none 0 0, .slice none 0 0, .slice none 0 0, .int .i64 0, .int .i64 0] 31)) w.heap.size 29 [.string nm, .int .i64 bs, .slice A H.length c, .slice B G.length d] := K
  replace O : Blk ((w.alloc (.cells #[.string nm, .int .i64 bs, .slice A H.length c, .slice B G.length d] 29)).alloc (.cells #[.string ⟨#[]⟩, .int .i64 0, .slice none 0 0, .slice none 0 0, .slice none 0 0, .int .i64 0, .int .i64 0] 31)) (w.heap.size + 1) 31 [.string ⟨#[]⟩, .int .i64 0, .slice none 0 0, .slice none 0 0, .slice none 0 0, .int .i64 0, .int .i64 0] := O
  have hz1 := hb.size
  by_cases hz : cc = 0
  rotate_left
  · have HR : Hid (R = ill cc) := Lib.hid (HI.out hz)
    go_enter Try.func11, Try.ntmps11
    go_wp2_with (fail)
    generalize (w.alloc (.cells #[.string nm, .int .i64 bs, .slice A H.length c, .slice B G.length d] 29)).alloc (.cells #[.string ⟨#[]⟩, .int .i64 0, .slice none 0 0, .slice none 0 0, .slice none 0 0, .int .i64 0, .int .i64 0] 31) = v0 at K O hb ⊢
    have hov := O.lt
    have ka0 : v0.drew.cell? ⟨w.heap.size, 0, none⟩ = _ := K.drew.cell (i := 0) rfl
    have ka1 : v0.drew.cell? ⟨w.heap.size, 1, none⟩ = _ := K.drew.cell (i := 1) rfl
    have ka2 : v0.drew.cell? ⟨w.heap.size, 2, none⟩ = _ := K.drew.cell (i := 2) rfl
    have ka3 : v0.drew.cell? ⟨w.heap.size, 3, none⟩ = _ := K.drew.cell (i := 3) rfl
    have kb0 : (v0.alloc (.cells #[.string ⟨#[]⟩, .int .i64 0, .slice none 0 0, .slice none 0 0] 29)).drew.cell? ⟨w.heap.size, 0, none⟩ = _ := (K.alloc (.cells #[.string ⟨#[]⟩, .int .i64 0, .slice none 0 0, .slice none 0 0] 29)).drew.cell (i := 0) rfl
    have kb1 : (v0.alloc (.cells #[.string ⟨#[]⟩, .int .i64 0, .slice none 0 0, .slice none 0 0] 29)).drew.cell? ⟨w.heap.size, 1, none⟩ = _ := (K.alloc (.cells #[.string ⟨#[]⟩, .int .i64 0, .slice none 0 0, .slice none 0 0] 29)).drew.cell (i := 1) rfl
    have kb2 : (v0.alloc (.cells #[.string ⟨#[]⟩, .int .i64 0, .slice none 0 0, .slice none 0 0] 29)).drew.cell? ⟨w.heap.size, 2, none⟩ = _ := (K.alloc (.cells #[.string ⟨#[]⟩, .int .i64 0, .slice none 0 0, .slice none 0 0] 29)).drew.cell (i := 2) rfl
    have kb3 : (v0.alloc (.cells #[.string ⟨#[]⟩, .int .i64 0, .slice none 0 0, .slice none 0 0] 29)).drew.cell? ⟨w.heap.size, 3, none⟩ = _ := (K.alloc (.cells #[.string ⟨#[]⟩, .int .i64 0, .slice none 0 0, .slice none 0 0] 29)).drew.cell (i := 3) rfl
    have BA := Lib.hid (BG.out v0.drew (below_drew hb))
    have BB := Lib.hid (BG.out (v0.alloc (.cells #[.string ⟨#[]⟩, .int .i64 0, .slice none 0 0, .slice none 0 0] 29)).drew (below_drew (hb.alloc hb.size (.cells #[.string ⟨#[]⟩, .int .i64 0, .slice none 0 0, .slice none 0 0] 29))))
    have hZ : Blk (v0.alloc (.cells #[.string ⟨#[]⟩, .int .i64 0, .slice none 0 0, .slice none 0 0] 29)).drew v0.heap.size 29 [.string ⟨#[]⟩, .int .i64 0, .slice none 0 0, .slice none 0 0] := Blk.fresh v0 29 [.string ⟨#[]⟩, .int .i64 0, .slice none 0 0, .slice none 0 0]
    have ZF := Lib.hid (show ∀ w1, Below (v0.alloc (.cells #[.string ⟨#[]⟩, .int .i64 0, .slice none 0 0, .slice none 0 0] 29)).drew.heap.size (v0.alloc (.cells #[.string ⟨#[]⟩, .int .i64 0, .slice none 0 0, .slice none 0 0] 29)).drew w1 → Blk w1 v0.heap.size 29 [.string ⟨#[]⟩, .int .i64 0, .slice none 0 0, .slice none 0 0] from fun w1 h => hZ.below h hZ.lt)
    have LT := Lib.hid (fun w1 h A8 a8 B8 b8 L k code h1 h2 => FetCut.late (v0 := v0) (w1 := w1) (nm := nm) (bs := bs) (H := H) (hg := hg) (kk := kk) (cc := cc) h (A8 := A8) (a8 := a8) (B8 := B8) (b8 := b8) (L := L) (k := k) (code := code) h1 h2)
    have OT := Lib.hid (fun w1 h A8 a8 B8 b8 L k code h1 h2 => FetCut.of (v0 := v0) (w1 := w1) (nm := nm) (bs := bs) (H := H) (hg := hg) (kk := kk) (cc := cc) h (A8 := A8) (a8 := a8) (B8 := B8) (b8 := b8) (L := L) (k := k) (code := code) h1 h2)
    clear hZ BG
    go_cut [7, 8, 9] (fun y7 y8 y9 wx => FetCut v0 nm bs H hg kk cc y7 y8 y9 wx)
    case first =>
      go_region_law
        (first
          | (go_simp; go_at_call 40; (with_reducible refine (ISc.out _).mono ?_); rintro e w9 ⟨rfl, rfl⟩)
          | (go_simp; go_at_call 39; (with_reducible refine BA.out.mono ?_); rintro e w1 ⟨A8, a8, B8, b8, L, k, code, rfl, hcd, hok, hb1⟩; have hfin := Lib.hid (LT.out w1 hb1 A8 a8 B8 b8 L k code hcd hok); clear hok)
          | (go_simp; go_at_call 39; (with_reducible refine BB.out.mono ?_); rintro e w1 ⟨A8, a8, B8, b8, L, k, code, rfl, hcd, hok, hb1⟩; have hfin := Lib.hid (OT.out w1 hb1 A8 a8 B8 b8 L k code hcd hok); have hZ1 := ZF.out w1 hb1; have z0 := hZ1.cell (i := 0) rfl; have z1 := hZ1.cell (i := 1) rfl; have z2 := hZ1.cell (i := 2) rfl; have z3 := hZ1.cell (i := 3) rfl; have zf0 := hZ1.froz 0; have zf1 := hZ1.froz 1; have zf2 := hZ1.froz 2; have zf3 := hZ1.froz 3; clear hok hZ1))
      all_goals
        clear ka0 ka1 ka2 ka3 kb0 kb1 kb2 kb3 BA BB ZF LT OT ISc
        go_wp2_with (fail)
        go_meet
        case rel => (first | (have q := hfin.out; rw [hcd] at q; exact q) | (obtain rfl : code = 0 := hcd.trans hz; exact hfin.out))
    case rest =>
    obtain ⟨g, A8, a8, B8, b8, L, k, code, rfl, rfl, rfl, hcd, hgv, P, hok, hb1⟩ := hcut
    rename_i w1
    clear ka0 ka1 ka2 ka3 kb0 kb1 kb2 kb3 BA BB ZF LT OT
    replace K := K.below hb1 K.lt
    replace O := O.below hb1 O.lt
    replace hb := hb.trans (hb1.mono hb.size)
    clear hok
    go_wp2_with (fail)
    refine (l07Ill_any cc _).mono ?_
    rintro e w3 ⟨rfl, hb3⟩
    replace K := K.below hb3 K.lt
    replace O := O.below hb3 O.lt
    replace hb := hb.trans (hb3.mono hb.size)
    have qc0 := O.cell (i := 0) rfl
    have qf0 := O.froz 0
    have qc1 := O.cell (i := 1) rfl
    have qf1 := O.froz 1
    have qc2 := O.cell (i := 2) rfl
    have qf2 := O.froz 2
    have qc3 := O.cell (i := 3) rfl
    have qf3 := O.froz 3
    have qc4 := O.cell (i := 4) rfl
    have qf4 := O.froz 4
    have qc5 := O.cell (i := 5) rfl
    have qf5 := O.froz 5
    have qc6 := O.cell (i := 6) rfl
    have qf6 := O.froz 6
    go_wp2
    clear qc0 qf0 qc1 qf1 qc2 qf2 qc3 qf3 qc4 qf4 qc5 qf5 qc6 qf6
    have O9 := (((((((O.put 0 (.string ⟨#[]⟩)).put 1 (.int .i64 0)).put 2 (.slice none 0 0)).put 3 (.slice none 0 0)).put 4 (.slice none 0 0)).put 5 (.int .i64 0)).put 6 (.int .i64 cc))
    have hb9 := (((((((hb.setCell (p := ⟨w.heap.size + 1, 0, none⟩) (by simp <;> omega) (.string ⟨#[]⟩)).setCell (p := ⟨w.heap.size + 1, 1, none⟩) (by simp <;> omega) (.int .i64 0)).setCell (p := ⟨w.heap.size + 1, 2, none⟩) (by simp <;> omega) (.slice none 0 0)).setCell (p := ⟨w.heap.size + 1, 3, none⟩) (by simp <;> omega) (.slice none 0 0)).setCell (p := ⟨w.heap.size + 1, 4, none⟩) (by simp <;> omega) (.slice none 0 0)).setCell (p := ⟨w.heap.size + 1, 5, none⟩) (by simp <;> omega) (.int .i64 0)).setCell (p := ⟨w.heap.size + 1, 6, none⟩) (by simp <;> omega) (.int .i64 cc))
    simp only [List.set_cons_succ, List.set_cons_zero] at O9
    generalize ((((((w3.setCell ⟨w.heap.size + 1, 0, none⟩ (.string ⟨#[]⟩)).setCell ⟨w.heap.size + 1, 1, none⟩ (.int .i64 0)).setCell ⟨w.heap.size + 1, 2, none⟩ (.slice none 0 0)).setCell ⟨w.heap.size + 1, 3, none⟩ (.slice none 0 0)).setCell ⟨w.heap.size + 1, 4, none⟩ (.slice none 0 0)).setCell ⟨w.heap.size + 1, 5, none⟩ (.int .i64 0)).setCell ⟨w.heap.size + 1, 6, none⟩ (.int .i64 cc) = w9 at O9 hb9  ⊢
    have oc0 := O9.cell (i := 0) rfl
    have oc1 := O9.cell (i := 1) rfl
    have oc2 := O9.cell (i := 2) rfl
    have oc3 := O9.cell (i := 3) rfl
    have oc4 := O9.cell (i := 4) rfl
    have oc5 := O9.cell (i := 5) rfl
    have oc6 := O9.cell (i := 6) rfl
    exact bodyPost_ret (v := .agg #[.string ⟨#[]⟩, .int .i64 0, .slice none 0 0, .slice none 0 0, .slice none 0 0, .int .i64 0, .int .i64 cc]) (by simp [results, Try.results11, go_sem, oc0, oc1, oc2, oc3, oc4, oc5, oc6]) rfl (by rw [HR.out]; exact ImO.ill hb9)
  have hO := HT.out hz
  have hnn := inB_true (HOK.out.trans (HO2.out hz))
  have hbs := inB_true hO.2.1
  have hl : H.length ≤ 20 := hO.2.2.1
  have hin := HIN.out hO hkl
  have HR := Lib.hid (HZ0.out hz)
  clear hO HT HI HCC HZ0 HO2 HIN
  obtain ⟨ak, HAK⟩ : ∃ x, Hid (hg[kk].acked = x) := ⟨_, Lib.hid rfl⟩
  rw [HAK.out] at hin
  obtain ⟨m, rfl⟩ : ∃ m : Nat, ak = bs + m := ⟨(ak - bs).toNat, by omega⟩
  have hkn : (kk : Int) < (hg.length : Int) := by omega
  have hsub : IntKind.i64.wrap (bs + (m : Int) - bs) = (m : Int) := by rw [IntWalk.i64_in _ (by omega)]; omega
  have hadd : IntKind.i64.wrap ((m : Int) + n) = (m : Int) + n := by rw [IntWalk.i64_in _ (by omega)]
  have hml : m ≤ H.length := by omega
  have HRE := Lib.hid (HE0.out m hkl HAK.out)
  obtain ⟨N, HN⟩ : ∃ x, Hid ((H.drop m).take n.toNat = x) := ⟨_, Lib.hid rfl⟩
  obtain ⟨q, HQ⟩ : ∃ x, Hid (N.length = x) := ⟨_, Lib.hid rfl⟩
  have hqe : (m : Int) + (q : Int) = min (H.length : Int) ((m : Int) + n) := by
    have h1 := HQ.out
    rw [← HN.out, List.length_take, List.length_drop] at h1
    omega
  have hq20 : q ≤ 20 := by have h1 := HQ.out; rw [← HN.out, List.length_take, List.length_drop] at h1; omega
  have hmq : m + q ≤ H.length := by omega
  have hcl := hc.le
  have LM := Lib.hid (fun W => l01Min_fet (H.length : Int) ((m : Int) + n) W)
  obtain ⟨e9, HE9⟩ : ∃ x, Hid (m + q = x) := ⟨_, Lib.hid rfl⟩
  have he9 : e9 = m + q := HE9.out.symm
  rw [← hqe, show (m : Int) + (q : Int) = (e9 : Int) by omega] at LM
  have hm0 : (0 : Int) ≤ (m : Int) := by omega
  have h90 : (0 : Int) ≤ (e9 : Int) := by omega
  have h91 : (e9 : Int) ≤ (c : Int) := by omega
  have h92 : (m : Int) ≤ (e9 : Int) := by omega
  have h93 : m ≤ e9 := by omega
  have h94 : e9 ≤ c := by omega
  rw [HN.out] at HRE
  have HRF := Lib.hid (HR.out.trans HRE.out)
  clear HR HRE HE0 hqe he9
  have H95 : Hid (e9 - m = N.length) := Lib.hid (by rw [HQ.out]; have := HE9.out; omega)
  by_cases hcm : c = m
  · subst hcm
    have H95 : Hid (0 = N.length) := Lib.hid (by have := H95.out; omega)
    go_enter Try.func11, Try.ntmps11
    go_wp2_with (fail)
    generalize (w.alloc (.cells #[.string nm, .int .i64 bs, .slice A H.length c, .slice B G.length d] 29)).alloc (.cells #[.string ⟨#[]⟩, .int .i64 0, .slice none 0 0, .slice none 0 0, .slice none 0 0, .int .i64 0, .int .i64 0] 31) = v0 at K O hb ⊢
    have hov := O.lt
    have ka0 : v0.drew.cell? ⟨w.heap.size, 0, none⟩ = _ := K.drew.cell (i := 0) rfl
    have ka1 : v0.drew.cell? ⟨w.heap.size, 1, none⟩ = _ := K.drew.cell (i := 1) rfl
    have ka2 : v0.drew.cell? ⟨w.heap.size, 2, none⟩ = _ := K.drew.cell (i := 2) rfl
    have ka3 : v0.drew.cell? ⟨w.heap.size, 3, none⟩ = _ := K.drew.cell (i := 3) rfl
    have kb0 : (v0.alloc (.cells #[.string ⟨#[]⟩, .int .i64 0, .slice none 0 0, .slice none 0 0] 29)).drew.cell? ⟨w.heap.size, 0, none⟩ = _ := (K.alloc (.cells #[.string ⟨#[]⟩, .int .i64 0, .slice none 0 0, .slice none 0 0] 29)).drew.cell (i := 0) rfl
    have kb1 : (v0.alloc (.cells #[.string ⟨#[]⟩, .int .i64 0, .slice none 0 0, .slice none 0 0] 29)).drew.cell? ⟨w.heap.size, 1, none⟩ = _ := (K.alloc (.cells #[.string ⟨#[]⟩, .int .i64 0, .slice none 0 0, .slice none 0 0] 29)).drew.cell (i := 1) rfl
    have kb2 : (v0.alloc (.cells #[.string ⟨#[]⟩, .int .i64 0, .slice none 0 0, .slice none 0 0] 29)).drew.cell? ⟨w.heap.size, 2, none⟩ = _ := (K.alloc (.cells #[.string ⟨#[]⟩, .int .i64 0, .slice none 0 0, .slice none 0 0] 29)).drew.cell (i := 2) rfl
    have kb3 : (v0.alloc (.cells #[.string ⟨#[]⟩, .int .i64 0, .slice none 0 0, .slice none 0 0] 29)).drew.cell? ⟨w.heap.size, 3, none⟩ = _ := (K.alloc (.cells #[.string ⟨#[]⟩, .int .i64 0, .slice none 0 0, .slice none 0 0] 29)).drew.cell (i := 3) rfl
    have BA := Lib.hid (BG.out v0.drew (below_drew hb))
    have BB := Lib.hid (BG.out (v0.alloc (.cells #[.string ⟨#[]⟩, .int .i64 0, .slice none 0 0, .slice none 0 0] 29)).drew (below_drew (hb.alloc hb.size (.cells #[.string ⟨#[]⟩, .int .i64 0, .slice none 0 0, .slice none 0 0] 29))))
    have hZ : Blk (v0.alloc (.cells #[.string ⟨#[]⟩, .int .i64 0, .slice none 0 0, .slice none 0 0] 29)).drew v0.heap.size 29 [.string ⟨#[]⟩, .int .i64 0, .slice none 0 0, .slice none 0 0] := Blk.fresh v0 29 [.string ⟨#[]⟩, .int .i64 0, .slice none 0 0, .slice none 0 0]
    have ZF := Lib.hid (show ∀ w1, Below (v0.alloc (.cells #[.string ⟨#[]⟩, .int .i64 0, .slice none 0 0, .slice none 0 0] 29)).drew.heap.size (v0.alloc (.cells #[.string ⟨#[]⟩, .int .i64 0, .slice none 0 0, .slice none 0 0] 29)).drew w1 → Blk w1 v0.heap.size 29 [.string ⟨#[]⟩, .int .i64 0, .slice none 0 0, .slice none 0 0] from fun w1 h => hZ.below h hZ.lt)
    have LT := Lib.hid (fun w1 h A8 a8 B8 b8 L k code h1 h2 => FetCut.late (v0 := v0) (w1 := w1) (nm := nm) (bs := bs) (H := H) (hg := hg) (kk := kk) (cc := cc) h (A8 := A8) (a8 := a8) (B8 := B8) (b8 := b8) (L := L) (k := k) (code := code) h1 h2)
    have OT := Lib.hid (fun w1 h A8 a8 B8 b8 L k code h1 h2 => FetCut.of (v0 := v0) (w1 := w1) (nm := nm) (bs := bs) (H := H) (hg := hg) (kk := kk) (cc := cc) h (A8 := A8) (a8 := a8) (B8 := B8) (b8 := b8) (L := L) (k := k) (code := code) h1 h2)
    clear hZ BG
    go_cut [7, 8, 9] (fun y7 y8 y9 wx => FetCut v0 nm bs H hg kk cc y7 y8 y9 wx)
    case first =>
      go_region_law
        (first
          | (go_simp; go_at_call 40; (with_reducible refine (ISc.out _).mono ?_); rintro e w9 ⟨rfl, rfl⟩)
          | (go_simp; go_at_call 39; (with_reducible refine BA.out.mono ?_); rintro e w1 ⟨A8, a8, B8, b8, L, k, code, rfl, hcd, hok, hb1⟩; have hfin := Lib.hid (LT.out w1 hb1 A8 a8 B8 b8 L k code hcd hok); clear hok)
          | (go_simp; go_at_call 39; (with_reducible refine BB.out.mono ?_); rintro e w1 ⟨A8, a8, B8, b8, L, k, code, rfl, hcd, hok, hb1⟩; have hfin := Lib.hid (OT.out w1 hb1 A8 a8 B8 b8 L k code hcd hok); have hZ1 := ZF.out w1 hb1; have z0 := hZ1.cell (i := 0) rfl; have z1 := hZ1.cell (i := 1) rfl; have z2 := hZ1.cell (i := 2) rfl; have z3 := hZ1.cell (i := 3) rfl; have zf0 := hZ1.froz 0; have zf1 := hZ1.froz 1; have zf2 := hZ1.froz 2; have zf3 := hZ1.froz 3; clear hok hZ1))
      all_goals
        clear ka0 ka1 ka2 ka3 kb0 kb1 kb2 kb3 BA BB ZF LT OT ISc
        go_wp2_with (fail)
        go_meet
        case rel => (first | (have q := hfin.out; rw [hcd] at q; exact q) | (obtain rfl : code = 0 := hcd.trans hz; exact hfin.out))
    case rest =>
    obtain ⟨g, A8, a8, B8, b8, L, k, code, rfl, rfl, rfl, hcd, hgv, P, hok, hb1⟩ := hcut
    rename_i w1
    clear ka0 ka1 ka2 ka3 kb0 kb1 kb2 kb3 BA BB ZF LT OT
    replace K := K.below hb1 K.lt
    replace O := O.below hb1 O.lt
    replace hb := hb.trans (hb1.mono hb.size)
    obtain rfl : code = 0 := by rw [hcd]; exact hz
    obtain ⟨hL, rfl, oS, oG⟩ := hok rfl
    subst L
    clear hok hcd
    obtain ⟨bg, rfl⟩ : ∃ bg, B8 = some ⟨bg, 0, none⟩ := by
      rcases oG.2 with ⟨he, h0⟩ | ⟨g, cap, cur, he, _⟩
      · omega
      · injection he with e1; exact ⟨g, e1⟩
    have nb : g ≠ bg := fun e => own_not oG P (by decide) (by rw [e]; rfl)
    obtain ⟨ga0, ga1, gf0, gf1⟩ := row_grp oG hkl
    rw [HAK.out] at ga1
    have kc1 := K.cell (i := 1) rfl
    have kc2 := K.cell (i := 2) rfl
    have pc3 := P.cell (i := 3) rfl
    clear ga0 gf0 gf1
    go_wp2_with (fail)
    refine (LM.out _).mono ?_
    rintro e w2 ⟨rfl, rfl⟩
    go_wp2_with (fail)
    clear ga1 pc3 kc1 kc2 LM
    have hPlt := P.lt
    have hOlt := O.lt
    have hlo2 : v0.heap.size ≤ w2.heap.size := hb1.size
    have al : Below w2.heap.size w2 (w2.alloc (.cells #[] 9)).drew := below_drew ((Below.refl w2.heap.size w2).alloc (Nat.le_refl _) (.cells #[] 9))
    have xa0 : w2.drew.cell? ⟨g, 0, none⟩ = _ := P.drew.cell (i := 0) rfl
    have xa1 : w2.drew.cell? ⟨g, 1, none⟩ = _ := P.drew.cell (i := 1) rfl
    have xa2 : w2.drew.cell? ⟨g, 2, none⟩ = _ := P.drew.cell (i := 2) rfl
    have xa3 : w2.drew.cell? ⟨g, 3, none⟩ = _ := P.drew.cell (i := 3) rfl
    have xk : w2.drew.cell? ⟨w.heap.size, 2, none⟩ = _ := K.drew.cell (i := 2) rfl
    have ya0 : (w2.alloc (.cells #[] 9)).drew.cell? ⟨g, 0, none⟩ = _ := (P.alloc (.cells #[] 9)).drew.cell (i := 0) rfl
    have ya1 : (w2.alloc (.cells #[] 9)).drew.cell? ⟨g, 1, none⟩ = _ := (P.alloc (.cells #[] 9)).drew.cell (i := 1) rfl
    have ya2 : (w2.alloc (.cells #[] 9)).drew.cell? ⟨g, 2, none⟩ = _ := (P.alloc (.cells #[] 9)).drew.cell (i := 2) rfl
    have ya3 : (w2.alloc (.cells #[] 9)).drew.cell? ⟨g, 3, none⟩ = _ := (P.alloc (.cells #[] 9)).drew.cell (i := 3) rfl
    have yk : (w2.alloc (.cells #[] 9)).drew.cell? ⟨w.heap.size, 2, none⟩ = _ := (K.alloc (.cells #[] 9)).drew.cell (i := 2) rfl
    have own0 : OwnS (w2.alloc (.cells #[] 9)).drew w2.heap.size (.slice (some ⟨w2.heap.size, 0, none⟩) 0 0) [] := row_below (own_empty w2 9 1 (by decide)) (below_drew (Below.refl (w2.alloc (.cells #[] 9)).heap.size (w2.alloc (.cells #[] 9)))) (Nat.le_refl _)
    have SN : Strs (w2.alloc (.cells #[] 9)).drew (w2.alloc (.cells #[] 9)).drew.heap.size A N := by
      have hq0 : N = [] := List.eq_nil_of_length_eq_zero (by rw [HQ.out]; omega)
      rw [hq0]; exact strs_nil _ _ _
    have hcN : A = none → 0 = 0 := fun _ => rfl
    have hN20 : N.length ≤ 20 := by rw [HQ.out]; exact hq20
    have hbs2 : w2.heap.size ≤ (w2.alloc (.cells #[] 9)).drew.heap.size := al.size
    have P4 := P.below al P.lt
    have K4 := K.below al K.lt
    have O4 := O.below al O.lt
    have oS4 := row_below oS al (Nat.le_refl _)
    have oG4 := row_below oG al (Nat.le_refl _)
    have hb4 := hb.trans (al.mono hb.size)
    have hz4 := hb.size
    have CF := Lib.hid (show ∀ w7, (w2.alloc (.cells #[] 9)).drew.grownBy w7 (some w2.heap.size) → FetAft w v0 g nm bs H hg bg A8 a8 b8 A B c d G w7 from fun w7 g7 => by
      have P7 := P4.grown g7 (by simp <;> omega)
      have K7 := K4.grown g7 (by simp <;> omega)
      have O7 := O4.grown g7 (by simp <;> omega)
      have hs := oS.lt
      have hgq := oG.lt
      exact ⟨P7, K7, O7, World.ownsRow.kept oS4 g7 (.inr (fun e => by have := (hs _ e).2; omega)), World.ownsRow.kept oG4 g7 (.inr (fun e => by have := (hgq _ e).2; omega)), below_row hb4 (by omega) g7 (fun k e => by injection e with e; omega)⟩)
    have hS8 := oS.lt
    clear P4 K4 O4 oS4 oG4 hb4 al P K O oS oG hb hb1
    go_region_held3 (fun W => W.cell? ⟨g, 0, none⟩ = some (.string nm) ∧ W.cell? ⟨g, 1, none⟩ = some (.int .i64 bs) ∧ W.cell? ⟨g, 2, none⟩ = some (.slice A8 H.length a8) ∧ W.cell? ⟨g, 3, none⟩ = some (.slice (some ⟨bg, 0, none⟩) hg.length b8) ∧ W.cell? ⟨w.heap.size, 2, none⟩ = some (.slice A H.length c))
      (first
        | with_reducible exact ⟨xa0, xa1, xa2, xa3, xk⟩
        | with_reducible exact ⟨ya0, ya1, ya2, ya3, yk⟩
        | with_reducible exact ⟨va0, va1, va2, va3, vk⟩
        | with_reducible exact ⟨ra0, ra1, ra2, ra3, rk⟩)
      ((refine step_app_str _ (by rfl) _ _ (by rfl) w2.heap.size (.slice (some ⟨w2.heap.size, 0, none⟩) 0 0) [] (by rfl) own0 (w2.alloc (.cells #[] 9)).drew.heap.size A N 0 0 H95.out (by rfl) hcN SN (by simp; omega) hbs2 ?_; intro A7 a7 w7 oT g7; obtain ⟨P7, K7, O7, oS7, oG7, hb7⟩ := CF.out w7 g7; have va0 := P7.cell (i := 0) rfl; have va1 := P7.cell (i := 1) rfl; have va2 := P7.cell (i := 2) rfl; have va3 := P7.cell (i := 3) rfl; have vk := K7.cell (i := 2) rfl; have qc0 := O7.cell (i := 0) rfl; have qc1 := O7.cell (i := 1) rfl; have qc2 := O7.cell (i := 2) rfl; have qc3 := O7.cell (i := 3) rfl; have qc4 := O7.cell (i := 4) rfl; have qc5 := O7.cell (i := 5) rfl; have qc6 := O7.cell (i := 6) rfl; have qf0 := O7.froz 0; have qf1 := O7.froz 1; have qf2 := O7.froz 2; have qf3 := O7.froz 3; have qf4 := O7.froz 4; have qf5 := O7.froz 5; have qf6 := O7.froz 6; have PR := (((((((P7.far (p := ⟨w.heap.size + 1, 0, none⟩) (by simp <;> omega) (.string nm)).far (p := ⟨w.heap.size + 1, 1, none⟩) (by simp <;> omega) (.int .i64 bs)).far (p := ⟨w.heap.size + 1, 2, none⟩) (by simp <;> omega) (.slice A8 H.length a8)).far (p := ⟨w.heap.size + 1, 3, none⟩) (by simp <;> omega) (.slice (some ⟨bg, 0, none⟩) hg.length b8)).far (p := ⟨w.heap.size + 1, 4, none⟩) (by simp <;> omega) (.slice A7 N.length a7)).far (p := ⟨w.heap.size + 1, 5, none⟩) (by simp <;> omega) (.int .i64 (bs + c))).far (p := ⟨w.heap.size + 1, 6, none⟩) (by simp <;> omega) (.int .i64 0)); have KR := (((((((K7.far (p := ⟨w.heap.size + 1, 0, none⟩) (by simp <;> omega) (.string nm)).far (p := ⟨w.heap.size + 1, 1, none⟩) (by simp <;> omega) (.int .i64 bs)).far (p := ⟨w.heap.size + 1, 2, none⟩) (by simp <;> omega) (.slice A8 H.length a8)).far (p := ⟨w.heap.size + 1, 3, none⟩) (by simp <;> omega) (.slice (some ⟨bg, 0, none⟩) hg.length b8)).far (p := ⟨w.heap.size + 1, 4, none⟩) (by simp <;> omega) (.slice A7 N.length a7)).far (p := ⟨w.heap.size + 1, 5, none⟩) (by simp <;> omega) (.int .i64 (bs + c))).far (p := ⟨w.heap.size + 1, 6, none⟩) (by simp <;> omega) (.int .i64 0)); have ra0 := PR.cell (i := 0) rfl; have ra1 := PR.cell (i := 1) rfl; have ra2 := PR.cell (i := 2) rfl; have ra3 := PR.cell (i := 3) rfl; have rk := KR.cell (i := 2) rfl; clear PR KR))
    all_goals
      clear ra0 ra1 ra2 ra3 rk va0 va1 va2 va3 vk P7 K7 xa0 xa1 xa2 xa3 xk ya0 ya1 ya2 ya3 yk CF
      go_wp2
      clear qc0 qc1 qc2 qc3 qc4 qc5 qc6 qf0 qf1 qf2 qf3 qf4 qf5 qf6
      rw [List.nil_append] at oT
      have hT7 := oT.lt
      have hap : Apart A8 A7 := fun x y hx hy => by
        have h1 := (hS8 x.block (by rw [hx]; rfl)).2
        have h2 := (hT7 y.block (by rw [hy]; rfl)).1
        omega
      have O := O7
      have hb := hb7
      have oT7 := oT
      clear oT O7 hb7
      have O9 := (((((((O.put 0 (.string nm)).put 1 (.int .i64 bs)).put 2 (.slice A8 H.length a8)).put 3 (.slice (some ⟨bg, 0, none⟩) hg.length b8)).put 4 (.slice A7 N.length a7)).put 5 (.int .i64 (bs + c))).put 6 (.int .i64 0))
      have hb9 := (((((((hb.setCell (p := ⟨w.heap.size + 1, 0, none⟩) (by simp <;> omega) (.string nm)).setCell (p := ⟨w.heap.size + 1, 1, none⟩) (by simp <;> omega) (.int .i64 bs)).setCell (p := ⟨w.heap.size + 1, 2, none⟩) (by simp <;> omega) (.slice A8 H.length a8)).setCell (p := ⟨w.heap.size + 1, 3, none⟩) (by simp <;> omega) (.slice (some ⟨bg, 0, none⟩) hg.length b8)).setCell (p := ⟨w.heap.size + 1, 4, none⟩) (by simp <;> omega) (.slice A7 N.length a7)).setCell (p := ⟨w.heap.size + 1, 5, none⟩) (by simp <;> omega) (.int .i64 (bs + c))).setCell (p := ⟨w.heap.size + 1, 6, none⟩) (by simp <;> omega) (.int .i64 0))
      have oS79 := (row_far (row_far (row_far (row_far (row_far (row_far (row_far oS7 (p := ⟨w.heap.size + 1, 0, none⟩) (by simp <;> omega) (.string nm)) (p := ⟨w.heap.size + 1, 1, none⟩) (by simp <;> omega) (.int .i64 bs)) (p := ⟨w.heap.size + 1, 2, none⟩) (by simp <;> omega) (.slice A8 H.length a8)) (p := ⟨w.heap.size + 1, 3, none⟩) (by simp <;> omega) (.slice (some ⟨bg, 0, none⟩) hg.length b8)) (p := ⟨w.heap.size + 1, 4, none⟩) (by simp <;> omega) (.slice A7 N.length a7)) (p := ⟨w.heap.size + 1, 5, none⟩) (by simp <;> omega) (.int .i64 (bs + c))) (p := ⟨w.heap.size + 1, 6, none⟩) (by simp <;> omega) (.int .i64 0))
      have oG79 := (row_far (row_far (row_far (row_far (row_far (row_far (row_far oG7 (p := ⟨w.heap.size + 1, 0, none⟩) (by simp <;> omega) (.string nm)) (p := ⟨w.heap.size + 1, 1, none⟩) (by simp <;> omega) (.int .i64 bs)) (p := ⟨w.heap.size + 1, 2, none⟩) (by simp <;> omega) (.slice A8 H.length a8)) (p := ⟨w.heap.size + 1, 3, none⟩) (by simp <;> omega) (.slice (some ⟨bg, 0, none⟩) hg.length b8)) (p := ⟨w.heap.size + 1, 4, none⟩) (by simp <;> omega) (.slice A7 N.length a7)) (p := ⟨w.heap.size + 1, 5, none⟩) (by simp <;> omega) (.int .i64 (bs + c))) (p := ⟨w.heap.size + 1, 6, none⟩) (by simp <;> omega) (.int .i64 0))
      have oT79 := (row_far (row_far (row_far (row_far (row_far (row_far (row_far oT7 (p := ⟨w.heap.size + 1, 0, none⟩) (by simp <;> omega) (.string nm)) (p := ⟨w.heap.size + 1, 1, none⟩) (by simp <;> omega) (.int .i64 bs)) (p := ⟨w.heap.size + 1, 2, none⟩) (by simp <;> omega) (.slice A8 H.length a8)) (p := ⟨w.heap.size + 1, 3, none⟩) (by simp <;> omega) (.slice (some ⟨bg, 0, none⟩) hg.length b8)) (p := ⟨w.heap.size + 1, 4, none⟩) (by simp <;> omega) (.slice A7 N.length a7)) (p := ⟨w.heap.size + 1, 5, none⟩) (by simp <;> omega) (.int .i64 (bs + c))) (p := ⟨w.heap.size + 1, 6, none⟩) (by simp <;> omega) (.int .i64 0))
      simp only [List.set_cons_succ, List.set_cons_zero] at O9
      generalize ((((((w7.setCell ⟨w.heap.size + 1, 0, none⟩ (.string nm)).setCell ⟨w.heap.size + 1, 1, none⟩ (.int .i64 bs)).setCell ⟨w.heap.size + 1, 2, none⟩ (.slice A8 H.length a8)).setCell ⟨w.heap.size + 1, 3, none⟩ (.slice (some ⟨bg, 0, none⟩) hg.length b8)).setCell ⟨w.heap.size + 1, 4, none⟩ (.slice A7 N.length a7)).setCell ⟨w.heap.size + 1, 5, none⟩ (.int .i64 (bs + c))).setCell ⟨w.heap.size + 1, 6, none⟩ (.int .i64 0) = w9 at O9 hb9 oS79 oG79 oT79 ⊢
      have oc0 := O9.cell (i := 0) rfl
      have oc1 := O9.cell (i := 1) rfl
      have oc2 := O9.cell (i := 2) rfl
      have oc3 := O9.cell (i := 3) rfl
      have oc4 := O9.cell (i := 4) rfl
      have oc5 := O9.cell (i := 5) rfl
      have oc6 := O9.cell (i := 6) rfl
      exact bodyPost_ret (v := .agg #[.string nm, .int .i64 bs, .slice A8 H.length a8, .slice (some ⟨bg, 0, none⟩) hg.length b8, .slice A7 N.length a7, .int .i64 (bs + c), .int .i64 0]) (by simp [results, Try.results11, go_sem, oc0, oc1, oc2, oc3, oc4, oc5, oc6]) rfl (fet_end HRF.out (by omega) oS79 oG79 (own_base oT79 (by omega)) hap hb9)
  · have hcm' : ¬ m = c := fun e => hcm e.symm
    go_enter Try.func11, Try.ntmps11
    go_wp2_with (fail)
    generalize (w.alloc (.cells #[.string nm, .int .i64 bs, .slice A H.length c, .slice B G.length d] 29)).alloc (.cells #[.string ⟨#[]⟩, .int .i64 0, .slice none 0 0, .slice none 0 0, .slice none 0 0, .int .i64 0, .int .i64 0] 31) = v0 at K O hb ⊢
    have hov := O.lt
    have ka0 : v0.drew.cell? ⟨w.heap.size, 0, none⟩ = _ := K.drew.cell (i := 0) rfl
    have ka1 : v0.drew.cell? ⟨w.heap.size, 1, none⟩ = _ := K.drew.cell (i := 1) rfl
    have ka2 : v0.drew.cell? ⟨w.heap.size, 2, none⟩ = _ := K.drew.cell (i := 2) rfl
    have ka3 : v0.drew.cell? ⟨w.heap.size, 3, none⟩ = _ := K.drew.cell (i := 3) rfl
    have kb0 : (v0.alloc (.cells #[.string ⟨#[]⟩, .int .i64 0, .slice none 0 0, .slice none 0 0] 29)).drew.cell? ⟨w.heap.size, 0, none⟩ = _ := (K.alloc (.cells #[.string ⟨#[]⟩, .int .i64 0, .slice none 0 0, .slice none 0 0] 29)).drew.cell (i := 0) rfl
    have kb1 : (v0.alloc (.cells #[.string ⟨#[]⟩, .int .i64 0, .slice none 0 0, .slice none 0 0] 29)).drew.cell? ⟨w.heap.size, 1, none⟩ = _ := (K.alloc (.cells #[.string ⟨#[]⟩, .int .i64 0, .slice none 0 0, .slice none 0 0] 29)).drew.cell (i := 1) rfl
    have kb2 : (v0.alloc (.cells #[.string ⟨#[]⟩, .int .i64 0, .slice none 0 0, .slice none 0 0] 29)).drew.cell? ⟨w.heap.size, 2, none⟩ = _ := (K.alloc (.cells #[.string ⟨#[]⟩, .int .i64 0, .slice none 0 0, .slice none 0 0] 29)).drew.cell (i := 2) rfl
    have kb3 : (v0.alloc (.cells #[.string ⟨#[]⟩, .int .i64 0, .slice none 0 0, .slice none 0 0] 29)).drew.cell? ⟨w.heap.size, 3, none⟩ = _ := (K.alloc (.cells #[.string ⟨#[]⟩, .int .i64 0, .slice none 0 0, .slice none 0 0] 29)).drew.cell (i := 3) rfl
    have BA := Lib.hid (BG.out v0.drew (below_drew hb))
    have BB := Lib.hid (BG.out (v0.alloc (.cells #[.string ⟨#[]⟩, .int .i64 0, .slice none 0 0, .slice none 0 0] 29)).drew (below_drew (hb.alloc hb.size (.cells #[.string ⟨#[]⟩, .int .i64 0, .slice none 0 0, .slice none 0 0] 29))))
    have hZ : Blk (v0.alloc (.cells #[.string ⟨#[]⟩, .int .i64 0, .slice none 0 0, .slice none 0 0] 29)).drew v0.heap.size 29 [.string ⟨#[]⟩, .int .i64 0, .slice none 0 0, .slice none 0 0] := Blk.fresh v0 29 [.string ⟨#[]⟩, .int .i64 0, .slice none 0 0, .slice none 0 0]
    have ZF := Lib.hid (show ∀ w1, Below (v0.alloc (.cells #[.string ⟨#[]⟩, .int .i64 0, .slice none 0 0, .slice none 0 0] 29)).drew.heap.size (v0.alloc (.cells #[.string ⟨#[]⟩, .int .i64 0, .slice none 0 0, .slice none 0 0] 29)).drew w1 → Blk w1 v0.heap.size 29 [.string ⟨#[]⟩, .int .i64 0, .slice none 0 0, .slice none 0 0] from fun w1 h => hZ.below h hZ.lt)
    have LT := Lib.hid (fun w1 h A8 a8 B8 b8 L k code h1 h2 => FetCut.late (v0 := v0) (w1 := w1) (nm := nm) (bs := bs) (H := H) (hg := hg) (kk := kk) (cc := cc) h (A8 := A8) (a8 := a8) (B8 := B8) (b8 := b8) (L := L) (k := k) (code := code) h1 h2)
    have OT := Lib.hid (fun w1 h A8 a8 B8 b8 L k code h1 h2 => FetCut.of (v0 := v0) (w1 := w1) (nm := nm) (bs := bs) (H := H) (hg := hg) (kk := kk) (cc := cc) h (A8 := A8) (a8 := a8) (B8 := B8) (b8 := b8) (L := L) (k := k) (code := code) h1 h2)
    clear hZ BG
    go_cut [7, 8, 9] (fun y7 y8 y9 wx => FetCut v0 nm bs H hg kk cc y7 y8 y9 wx)
    case first =>
      go_region_law
        (first
          | (go_simp; go_at_call 40; (with_reducible refine (ISc.out _).mono ?_); rintro e w9 ⟨rfl, rfl⟩)
          | (go_simp; go_at_call 39; (with_reducible refine BA.out.mono ?_); rintro e w1 ⟨A8, a8, B8, b8, L, k, code, rfl, hcd, hok, hb1⟩; have hfin := Lib.hid (LT.out w1 hb1 A8 a8 B8 b8 L k code hcd hok); clear hok)
          | (go_simp; go_at_call 39; (with_reducible refine BB.out.mono ?_); rintro e w1 ⟨A8, a8, B8, b8, L, k, code, rfl, hcd, hok, hb1⟩; have hfin := Lib.hid (OT.out w1 hb1 A8 a8 B8 b8 L k code hcd hok); have hZ1 := ZF.out w1 hb1; have z0 := hZ1.cell (i := 0) rfl; have z1 := hZ1.cell (i := 1) rfl; have z2 := hZ1.cell (i := 2) rfl; have z3 := hZ1.cell (i := 3) rfl; have zf0 := hZ1.froz 0; have zf1 := hZ1.froz 1; have zf2 := hZ1.froz 2; have zf3 := hZ1.froz 3; clear hok hZ1))
      all_goals
        clear ka0 ka1 ka2 ka3 kb0 kb1 kb2 kb3 BA BB ZF LT OT ISc
        go_wp2_with (fail)
        go_meet
        case rel => (first | (have q := hfin.out; rw [hcd] at q; exact q) | (obtain rfl : code = 0 := hcd.trans hz; exact hfin.out))
    case rest =>
    obtain ⟨g, A8, a8, B8, b8, L, k, code, rfl, rfl, rfl, hcd, hgv, P, hok, hb1⟩ := hcut
    rename_i w1
    clear ka0 ka1 ka2 ka3 kb0 kb1 kb2 kb3 BA BB ZF LT OT
    replace K := K.below hb1 K.lt
    replace O := O.below hb1 O.lt
    replace hb := hb.trans (hb1.mono hb.size)
    obtain rfl : code = 0 := by rw [hcd]; exact hz
    obtain ⟨hL, rfl, oS, oG⟩ := hok rfl
    subst L
    clear hok hcd
    obtain ⟨bg, rfl⟩ : ∃ bg, B8 = some ⟨bg, 0, none⟩ := by
      rcases oG.2 with ⟨he, h0⟩ | ⟨g, cap, cur, he, _⟩
      · omega
      · injection he with e1; exact ⟨g, e1⟩
    have nb : g ≠ bg := fun e => own_not oG P (by decide) (by rw [e]; rfl)
    obtain ⟨ga0, ga1, gf0, gf1⟩ := row_grp oG hkl
    rw [HAK.out] at ga1
    have kc1 := K.cell (i := 1) rfl
    have kc2 := K.cell (i := 2) rfl
    have pc3 := P.cell (i := 3) rfl
    clear ga0 gf0 gf1
    go_wp2_with (fail)
    refine (LM.out _).mono ?_
    rintro e w2 ⟨rfl, rfl⟩
    go_wp2_with (fail)
    clear ga1 pc3 kc1 kc2 LM
    have hPlt := P.lt
    have hOlt := O.lt
    have hlo2 : v0.heap.size ≤ w2.heap.size := hb1.size
    have al : Below w2.heap.size w2 (w2.alloc (.cells #[] 9)).drew := below_drew ((Below.refl w2.heap.size w2).alloc (Nat.le_refl _) (.cells #[] 9))
    have xa0 : w2.drew.cell? ⟨g, 0, none⟩ = _ := P.drew.cell (i := 0) rfl
    have xa1 : w2.drew.cell? ⟨g, 1, none⟩ = _ := P.drew.cell (i := 1) rfl
    have xa2 : w2.drew.cell? ⟨g, 2, none⟩ = _ := P.drew.cell (i := 2) rfl
    have xa3 : w2.drew.cell? ⟨g, 3, none⟩ = _ := P.drew.cell (i := 3) rfl
    have xk : w2.drew.cell? ⟨w.heap.size, 2, none⟩ = _ := K.drew.cell (i := 2) rfl
    have ya0 : (w2.alloc (.cells #[] 9)).drew.cell? ⟨g, 0, none⟩ = _ := (P.alloc (.cells #[] 9)).drew.cell (i := 0) rfl
    have ya1 : (w2.alloc (.cells #[] 9)).drew.cell? ⟨g, 1, none⟩ = _ := (P.alloc (.cells #[] 9)).drew.cell (i := 1) rfl
    have ya2 : (w2.alloc (.cells #[] 9)).drew.cell? ⟨g, 2, none⟩ = _ := (P.alloc (.cells #[] 9)).drew.cell (i := 2) rfl
    have ya3 : (w2.alloc (.cells #[] 9)).drew.cell? ⟨g, 3, none⟩ = _ := (P.alloc (.cells #[] 9)).drew.cell (i := 3) rfl
    have yk : (w2.alloc (.cells #[] 9)).drew.cell? ⟨w.heap.size, 2, none⟩ = _ := (K.alloc (.cells #[] 9)).drew.cell (i := 2) rfl
    have own0 : OwnS (w2.alloc (.cells #[] 9)).drew w2.heap.size (.slice (some ⟨w2.heap.size, 0, none⟩) 0 0) [] := row_below (own_empty w2 9 1 (by decide)) (below_drew (Below.refl (w2.alloc (.cells #[] 9)).heap.size (w2.alloc (.cells #[] 9)))) (Nat.le_refl _)
    have SN : Strs (w2.alloc (.cells #[] 9)).drew (w2.alloc (.cells #[] 9)).drew.heap.size (A.map (·.add m)) N := by
      have h1 := strs_drop (k := m) (hA.on (hb.trans (below_drew ((Below.refl w2.heap.size w2).alloc (Nat.le_refl _) (.cells #[] 9)) |>.mono hb.size))) hml hcl
      rw [if_neg hcm] at h1
      have h2 := strs_takeN h1 n.toNat
      rw [HN.out] at h2
      exact h2
    have hcN : (A.map (·.add m)) = none → c - m = 0 := fun e => by
      cases A with
      | none => have := hc.nil rfl; omega
      | some a => cases e
    have hN20 : N.length ≤ 20 := by rw [HQ.out]; exact hq20
    have hbs2 : w2.heap.size ≤ (w2.alloc (.cells #[] 9)).drew.heap.size := al.size
    have P4 := P.below al P.lt
    have K4 := K.below al K.lt
    have O4 := O.below al O.lt
    have oS4 := row_below oS al (Nat.le_refl _)
    have oG4 := row_below oG al (Nat.le_refl _)
    have hb4 := hb.trans (al.mono hb.size)
    have hz4 := hb.size
    have CF := Lib.hid (show ∀ w7, (w2.alloc (.cells #[] 9)).drew.grownBy w7 (some w2.heap.size) → FetAft w v0 g nm bs H hg bg A8 a8 b8 A B c d G w7 from fun w7 g7 => by
      have P7 := P4.grown g7 (by simp <;> omega)
      have K7 := K4.grown g7 (by simp <;> omega)
      have O7 := O4.grown g7 (by simp <;> omega)
      have hs := oS.lt
      have hgq := oG.lt
      exact ⟨P7, K7, O7, World.ownsRow.kept oS4 g7 (.inr (fun e => by have := (hs _ e).2; omega)), World.ownsRow.kept oG4 g7 (.inr (fun e => by have := (hgq _ e).2; omega)), below_row hb4 (by omega) g7 (fun k e => by injection e with e; omega)⟩)
    have hS8 := oS.lt
    clear P4 K4 O4 oS4 oG4 hb4 al P K O oS oG hb hb1
    go_region_held3 (fun W => W.cell? ⟨g, 0, none⟩ = some (.string nm) ∧ W.cell? ⟨g, 1, none⟩ = some (.int .i64 bs) ∧ W.cell? ⟨g, 2, none⟩ = some (.slice A8 H.length a8) ∧ W.cell? ⟨g, 3, none⟩ = some (.slice (some ⟨bg, 0, none⟩) hg.length b8) ∧ W.cell? ⟨w.heap.size, 2, none⟩ = some (.slice A H.length c))
      (first
        | with_reducible exact ⟨xa0, xa1, xa2, xa3, xk⟩
        | with_reducible exact ⟨ya0, ya1, ya2, ya3, yk⟩
        | with_reducible exact ⟨va0, va1, va2, va3, vk⟩
        | with_reducible exact ⟨ra0, ra1, ra2, ra3, rk⟩)
      ((refine step_app_str _ (by rfl) _ _ (by rfl) w2.heap.size (.slice (some ⟨w2.heap.size, 0, none⟩) 0 0) [] (by rfl) own0 (w2.alloc (.cells #[] 9)).drew.heap.size (A.map (·.add m)) N (e9 - m) (c - m) H95.out (by rfl) hcN SN (by simp; omega) hbs2 ?_; intro A7 a7 w7 oT g7; obtain ⟨P7, K7, O7, oS7, oG7, hb7⟩ := CF.out w7 g7; have va0 := P7.cell (i := 0) rfl; have va1 := P7.cell (i := 1) rfl; have va2 := P7.cell (i := 2) rfl; have va3 := P7.cell (i := 3) rfl; have vk := K7.cell (i := 2) rfl; have qc0 := O7.cell (i := 0) rfl; have qc1 := O7.cell (i := 1) rfl; have qc2 := O7.cell (i := 2) rfl; have qc3 := O7.cell (i := 3) rfl; have qc4 := O7.cell (i := 4) rfl; have qc5 := O7.cell (i := 5) rfl; have qc6 := O7.cell (i := 6) rfl; have qf0 := O7.froz 0; have qf1 := O7.froz 1; have qf2 := O7.froz 2; have qf3 := O7.froz 3; have qf4 := O7.froz 4; have qf5 := O7.froz 5; have qf6 := O7.froz 6; have PR := (((((((P7.far (p := ⟨w.heap.size + 1, 0, none⟩) (by simp <;> omega) (.string nm)).far (p := ⟨w.heap.size + 1, 1, none⟩) (by simp <;> omega) (.int .i64 bs)).far (p := ⟨w.heap.size + 1, 2, none⟩) (by simp <;> omega) (.slice A8 H.length a8)).far (p := ⟨w.heap.size + 1, 3, none⟩) (by simp <;> omega) (.slice (some ⟨bg, 0, none⟩) hg.length b8)).far (p := ⟨w.heap.size + 1, 4, none⟩) (by simp <;> omega) (.slice A7 N.length a7)).far (p := ⟨w.heap.size + 1, 5, none⟩) (by simp <;> omega) (.int .i64 (bs + m))).far (p := ⟨w.heap.size + 1, 6, none⟩) (by simp <;> omega) (.int .i64 0)); have KR := (((((((K7.far (p := ⟨w.heap.size + 1, 0, none⟩) (by simp <;> omega) (.string nm)).far (p := ⟨w.heap.size + 1, 1, none⟩) (by simp <;> omega) (.int .i64 bs)).far (p := ⟨w.heap.size + 1, 2, none⟩) (by simp <;> omega) (.slice A8 H.length a8)).far (p := ⟨w.heap.size + 1, 3, none⟩) (by simp <;> omega) (.slice (some ⟨bg, 0, none⟩) hg.length b8)).far (p := ⟨w.heap.size + 1, 4, none⟩) (by simp <;> omega) (.slice A7 N.length a7)).far (p := ⟨w.heap.size + 1, 5, none⟩) (by simp <;> omega) (.int .i64 (bs + m))).far (p := ⟨w.heap.size + 1, 6, none⟩) (by simp <;> omega) (.int .i64 0)); have ra0 := PR.cell (i := 0) rfl; have ra1 := PR.cell (i := 1) rfl; have ra2 := PR.cell (i := 2) rfl; have ra3 := PR.cell (i := 3) rfl; have rk := KR.cell (i := 2) rfl; clear PR KR))
    all_goals
      clear ra0 ra1 ra2 ra3 rk va0 va1 va2 va3 vk P7 K7 xa0 xa1 xa2 xa3 xk ya0 ya1 ya2 ya3 yk CF
      go_wp2
      clear qc0 qc1 qc2 qc3 qc4 qc5 qc6 qf0 qf1 qf2 qf3 qf4 qf5 qf6
      rw [List.nil_append] at oT
      have hT7 := oT.lt
      have hap : Apart A8 A7 := fun x y hx hy => by
        have h1 := (hS8 x.block (by rw [hx]; rfl)).2
        have h2 := (hT7 y.block (by rw [hy]; rfl)).1
        omega
      have O := O7
      have hb := hb7
      have oT7 := oT
      clear oT O7 hb7
      have O9 := (((((((O.put 0 (.string nm)).put 1 (.int .i64 bs)).put 2 (.slice A8 H.length a8)).put 3 (.slice (some ⟨bg, 0, none⟩) hg.length b8)).put 4 (.slice A7 N.length a7)).put 5 (.int .i64 (bs + m))).put 6 (.int .i64 0))
      have hb9 := (((((((hb.setCell (p := ⟨w.heap.size + 1, 0, none⟩) (by simp <;> omega) (.string nm)).setCell (p := ⟨w.heap.size + 1, 1, none⟩) (by simp <;> omega) (.int .i64 bs)).setCell (p := ⟨w.heap.size + 1, 2, none⟩) (by simp <;> omega) (.slice A8 H.length a8)).setCell (p := ⟨w.heap.size + 1, 3, none⟩) (by simp <;> omega) (.slice (some ⟨bg, 0, none⟩) hg.length b8)).setCell (p := ⟨w.heap.size + 1, 4, none⟩) (by simp <;> omega) (.slice A7 N.length a7)).setCell (p := ⟨w.heap.size + 1, 5, none⟩) (by simp <;> omega) (.int .i64 (bs + m))).setCell (p := ⟨w.heap.size + 1, 6, none⟩) (by simp <;> omega) (.int .i64 0))
      have oS79 := (row_far (row_far (row_far (row_far (row_far (row_far (row_far oS7 (p := ⟨w.heap.size + 1, 0, none⟩) (by simp <;> omega) (.string nm)) (p := ⟨w.heap.size + 1, 1, none⟩) (by simp <;> omega) (.int .i64 bs)) (p := ⟨w.heap.size + 1, 2, none⟩) (by simp <;> omega) (.slice A8 H.length a8)) (p := ⟨w.heap.size + 1, 3, none⟩) (by simp <;> omega) (.slice (some ⟨bg, 0, none⟩) hg.length b8)) (p := ⟨w.heap.size + 1, 4, none⟩) (by simp <;> omega) (.slice A7 N.length a7)) (p := ⟨w.heap.size + 1, 5, none⟩) (by simp <;> omega) (.int .i64 (bs + m))) (p := ⟨w.heap.size + 1, 6, none⟩) (by simp <;> omega) (.int .i64 0))
      have oG79 := (row_far (row_far (row_far (row_far (row_far (row_far (row_far oG7 (p := ⟨w.heap.size + 1, 0, none⟩) (by simp <;> omega) (.string nm)) (p := ⟨w.heap.size + 1, 1, none⟩) (by simp <;> omega) (.int .i64 bs)) (p := ⟨w.heap.size + 1, 2, none⟩) (by simp <;> omega) (.slice A8 H.length a8)) (p := ⟨w.heap.size + 1, 3, none⟩) (by simp <;> omega) (.slice (some ⟨bg, 0, none⟩) hg.length b8)) (p := ⟨w.heap.size + 1, 4, none⟩) (by simp <;> omega) (.slice A7 N.length a7)) (p := ⟨w.heap.size + 1, 5, none⟩) (by simp <;> omega) (.int .i64 (bs + m))) (p := ⟨w.heap.size + 1, 6, none⟩) (by simp <;> omega) (.int .i64 0))
      have oT79 := (row_far (row_far (row_far (row_far (row_far (row_far (row_far oT7 (p := ⟨w.heap.size + 1, 0, none⟩) (by simp <;> omega) (.string nm)) (p := ⟨w.heap.size + 1, 1, none⟩) (by simp <;> omega) (.int .i64 bs)) (p := ⟨w.heap.size + 1, 2, none⟩) (by simp <;> omega) (.slice A8 H.length a8)) (p := ⟨w.heap.size + 1, 3, none⟩) (by simp <;> omega) (.slice (some ⟨bg, 0, none⟩) hg.length b8)) (p := ⟨w.heap.size + 1, 4, none⟩) (by simp <;> omega) (.slice A7 N.length a7)) (p := ⟨w.heap.size + 1, 5, none⟩) (by simp <;> omega) (.int .i64 (bs + m))) (p := ⟨w.heap.size + 1, 6, none⟩) (by simp <;> omega) (.int .i64 0))
      simp only [List.set_cons_succ, List.set_cons_zero] at O9
      generalize ((((((w7.setCell ⟨w.heap.size + 1, 0, none⟩ (.string nm)).setCell ⟨w.heap.size + 1, 1, none⟩ (.int .i64 bs)).setCell ⟨w.heap.size + 1, 2, none⟩ (.slice A8 H.length a8)).setCell ⟨w.heap.size + 1, 3, none⟩ (.slice (some ⟨bg, 0, none⟩) hg.length b8)).setCell ⟨w.heap.size + 1, 4, none⟩ (.slice A7 N.length a7)).setCell ⟨w.heap.size + 1, 5, none⟩ (.int .i64 (bs + m))).setCell ⟨w.heap.size + 1, 6, none⟩ (.int .i64 0) = w9 at O9 hb9 oS79 oG79 oT79 ⊢
      have oc0 := O9.cell (i := 0) rfl
      have oc1 := O9.cell (i := 1) rfl
      have oc2 := O9.cell (i := 2) rfl
      have oc3 := O9.cell (i := 3) rfl
      have oc4 := O9.cell (i := 4) rfl
      have oc5 := O9.cell (i := 5) rfl
      have oc6 := O9.cell (i := 6) rfl
      exact bodyPost_ret (v := .agg #[.string nm, .int .i64 bs, .slice A8 H.length a8, .slice (some ⟨bg, 0, none⟩) hg.length b8, .slice A7 N.length a7, .int .i64 (bs + m), .int .i64 0]) (by simp [results, Try.results11, go_sem, oc0, oc1, oc2, oc3, oc4, oc5, oc6]) rfl (fet_end HRF.out (by omega) oS79 oG79 (own_base oT79 (by omega)) hap hb9)
end Go.Proofs.Ytkimieeabmjfgaa

namespace Go.Proofs.Ytkimieeabmjfgaa
open Go.RowKit Go.Deep
set_option linter.unusedVariables false
set_option maxRecDepth 1000000
set_option maxHeartbeats 16000000 in
theorem forC_fetch (t : Tpc) (gn s : ByteArray) (n : Int) (R : Ans) (lo p b5 b7 b9 : Nat) (A : Option Addr) (a : Nat) (B : Option Addr) (b : Nat) (w : World) (h : Wk w lo p t s n A a B b) (ho : topOK t) (hl : lo ≤ p) (hgn : gn.size ≤ 1048576)
    (h5 : Blk w b5 109 [.pointer (some ⟨p, 0, none⟩)]) (h7 : Blk w b7 9 [.string gn]) (h9 : Blk w b9 75 [.func (.func 47) #[.pointer (some ⟨p, 0, none⟩)] #[]])
    (HOP : ∀ W A2 a2 bg b2, Wk W lo p ⟨t.name, t.base, t.held, hasG t gn⟩ s n A2 a2 (some ⟨bg, 0, none⟩) b2 → Calls Try.prog 47 #[.pointer (some ⟨p, 0, none⟩), .pointer (some ⟨bg, posG t.groups gn * 2, none⟩)] W (OpPost lo p s n R W)) :
    Calls Try.prog 88 #[.pointer (some ⟨b5, 0, none⟩), .pointer (some ⟨b7, 0, none⟩), .pointer (some ⟨b9, 0, none⟩)] w (OpPost lo p s n (forA t gn R) w) := by
  have hlow : lo ≤ w.heap.size := Nat.le_trans hl (Nat.le_of_lt h.blk.lt)
  obtain ⟨P, oS, oG⟩ := h
  have hG4 := ho.2.2.2.2.1
  have GP := Lib.hid (fun W (hb : Below w.heap.size w W) => groupPlace_any B t.groups b gn W ((OwnG.grs oG).on hb) (rising_of ho) (by omega))
  have hpl := posG_le t.groups gn
  have HIF := Lib.hid (isG_iff (G := t.groups) (s := gn))
  have HH := Lib.hid (show hasG t gn = if isG t.groups gn = true then t.groups else insAt t.groups (posG t.groups gn) ⟨gn, t.base⟩ from rfl)
  have HF := Lib.hid (forA.eq_1 t gn R)
  have HOPh := Lib.hid HOP
  clear HOP
  obtain ⟨hg, Hhg⟩ : ∃ x, Hid (hasG t gn = x) := ⟨_, Lib.hid rfl⟩
  rw [Hhg.out] at HH HOPh
  obtain ⟨fr, Hfr⟩ : ∃ x, Hid (forA t gn R = x) := ⟨_, Lib.hid rfl⟩
  rw [Hfr.out] at HF ⊢
  obtain ⟨nm, bs, H, G⟩ := t
  simp only at P oS oG hG4 GP hpl HIF HH HF HOPh
  clear Hhg Hfr ho
  obtain ⟨k, HK⟩ : ∃ k, Hid (posG G gn = k) := ⟨_, Lib.hid rfl⟩
  rw [HK.out] at GP hpl HH HOPh
  have n5 := blk_ne h5 P (by decide)
  have n9 : b9 ≠ p := blk_ne h9 P (by decide)
  obtain ⟨I, fw, hI, g0, h6, gc, ge⟩ := class_grown w
  have x3 := fun q => kept_cell (h6 q) (P.cell (i := 3) rfl)
  have x5 := fun q => kept_cell (h6 q) (h5.cell (i := 0) rfl)
  have x7 := fun q => kept_cell (h6 q) (h7.cell (i := 0) rfl)
  have GE := Lib.hid ge
  have GC := Lib.hid gc
  have H6 := Lib.hid h6
  clear h6 gc ge
  rcases Bool.eq_false_or_eq_true (isG G gn) with hI2 | hI2
  · obtain ⟨hkl, hke⟩ := HIF.out.1 hI2
    simp only [HK.out] at hkl
    have HHe : Hid (hg = G) := Lib.hid (by rw [HH.out, if_pos hI2])
    have HFe : Hid (fr = R) := Lib.hid (by rw [HF.out, if_neg (by rw [hI2]; simp)])
    rw [hI2] at GP
    clear HH HF HIF hke hI2
    go_enter Try.func88, Try.ntmps88
    go_wp2_with (fail)
    refine wp_region_kept fw (by kernel_rfl) (by kernel_rfl) g0 ?_
    repeat (first
      | go_big_quiet_skip
      | (go_big_quiet_want; go_big_quiet_op; first | go_big_quiet_on | (apply Exists.intro; refine ⟨fun q => ?_, ?_⟩; (go_at_call 89; (with_reducible refine (GP.out _ (H6.out q)).mono ?_); rintro e w4 ⟨rfl, hb4⟩; exact ⟨rfl, GC.out _ _ hb4⟩); go_big_quiet_on)))
    refine wpQuiet_nil ?_
    intro w2 h2
    have hb2 := GE.out _ h2
    have P2 := P.below hb2 P.lt
    have S2 : OwnS w2 lo (.slice A H.length a) H := row_below oS hb2 (Nat.le_refl _)
    have G2 : OwnG w2 lo (.slice B G.length b) G := row_below oG hb2 (Nat.le_refl _)
    have h52 := h5.below hb2 h5.lt
    have h92 := h9.below hb2 h9.lt
    have hb02 : Below lo w w2 := hb2.mono hlow
    have KQ := Lib.hid (fun g cs (_ : g ≠ p) (h : Blk w g 31 cs) => h.below hb2 h.lt)
    have hk' : (k : Int) < (G.length : Int) := by omega
    obtain ⟨bg, rfl⟩ : ∃ bg, B = some ⟨bg, 0, none⟩ := by
      rcases oG.2 with ⟨he, h0⟩ | ⟨g, cap, cur, he, _⟩
      · rw [h0] at hkl; omega
      · injection he with e1; exact ⟨g, e1⟩
    clear h2 g0 x3 x5 x7 GE GC H6 GP
    go_wp2_with (fail)
    obtain ⟨I2, fv, hI2, v0, v6, vc, ve⟩ := class_grown w2
    have z3 := fun q => kept_cell (v6 q) (P2.cell (i := 3) rfl)
    have z5 := fun q => kept_cell (v6 q) (h52.cell (i := 0) rfl)
    have z9 := fun q => kept_cell (v6 q) (h92.cell (i := 0) rfl)
    have VE := Lib.hid ve
    clear v6 vc ve
    refine wp_region_class_tail (C := fun w' => ∃ q, w' = fv q) 8 (by kernel_rfl) (by kernel_rfl) v0 ?_
    simp only [List.take_succ_cons, List.take_zero, List.drop_succ_cons, List.drop_zero]
    repeat (first
      | go_big_quiet_skip
      | (go_big_quiet_want; go_big_quiet_op; go_big_quiet_on))
    refine wpQuiet_nil ?_
    intro w8 h8
    have hb8 := VE.out _ h8
    have P8 := P2.below hb8 P2.lt
    have S8 : OwnS w8 lo (.slice A H.length a) H := row_below S2 hb8 (Nat.le_refl _)
    have G8 := row_below G2 hb8 (Nat.le_refl _)
    have hb08 := hb02.trans (hb8.mono (Nat.le_trans hlow hb02.size))
    have K8 := Lib.hid (fun g cs (hg : g ≠ p) (h : Blk w g 31 cs) => (KQ.out g cs hg h).below hb8 (KQ.out g cs hg h).lt)
    have OP := HOPh.out w8 A a bg b ⟨by rw [HHe.out]; exact P8, S8, by rw [HHe.out]; exact G8⟩
    have OPh := Lib.hid OP
    clear OP z3 z5 z9 h8 v0 VE
    go_wp2_with (fail)
    refine OPh.out.mono ?_
    rintro e w9 ⟨o1, o2, rfl, o4⟩
    go_wp2
    go_ret
    rw [HFe.out]
    exact OpPost.after hb08 K8.out ⟨o1, o2, rfl, o4⟩ hlow
  · have HHe : Hid (hg = insAt G k ⟨gn, bs⟩) := Lib.hid (by rw [HH.out, if_neg (by rw [hI2]; simp)])
    rw [hI2] at GP
    go_enter Try.func88, Try.ntmps88
    go_wp2_with (fail)
    refine wp_region_kept fw (by kernel_rfl) (by kernel_rfl) g0 ?_
    repeat (first
      | go_big_quiet_skip
      | (go_big_quiet_want; go_big_quiet_op; first | go_big_quiet_on | (apply Exists.intro; refine ⟨fun q => ?_, ?_⟩; (go_at_call 89; (with_reducible refine (GP.out _ (H6.out q)).mono ?_); rintro e w4 ⟨rfl, hb4⟩; exact ⟨rfl, GC.out _ _ hb4⟩); go_big_quiet_on)))
    refine wpQuiet_nil ?_
    intro w2 h2
    have hb2 := GE.out _ h2
    have P2 := P.below hb2 P.lt
    have S2 : OwnS w2 lo (.slice A H.length a) H := row_below oS hb2 (Nat.le_refl _)
    have G2 : OwnG w2 lo (.slice B G.length b) G := row_below oG hb2 (Nat.le_refl _)
    have h52 := h5.below hb2 h5.lt
    have h92 := h9.below hb2 h9.lt
    have hb02 : Below lo w w2 := hb2.mono hlow
    have KQ := Lib.hid (fun g cs (_ : g ≠ p) (h : Blk w g 31 cs) => h.below hb2 h.lt)
    have h72 := h7.below hb2 h7.lt
    clear h2 g0 x3 x5 x7 GE GC H6 GP
    have c3 := P2.cell (i := 3) rfl
    have c5 := h52.cell (i := 0) rfl
    by_cases h4 : 4 ≤ G.length
    · have hd : ((G.length : Int) == 4) = true := by have : G.length = 4 := by omega
                                                     rw [this]; rfl
      have HFe : Hid (fr = ill 9) := Lib.hid (by rw [HF.out, if_pos ⟨hI2, h4⟩])
      clear HF HIF HH hI2 h4
      go_wp2
      go_ret
      rw [HFe.out]
      exact ⟨hb02, KQ.out, rfl, .inl ⟨by simp [ill], rfl⟩⟩
    have hd : ((G.length : Int) == 4) = false := by rw [beq_eq_false_iff_ne]; omega
    have HFe : Hid (fr = R) := Lib.hid (by rw [HF.out, if_neg (fun h => h4 h.2)])
    have hG3 : G.length ≤ 3 := by omega
    clear HF HIF HH hI2 h4
    have CL := Lib.hid (fun W => clone_any gn W hgn)
    go_wp2_with (fail)
    clear c3 c5
    go_cut [6] (fun y wx => AdCut w2 gn bs y wx)
    case first =>
      have x5 : w2.drew.cell? ⟨b5, 0, none⟩ = some (.pointer (some ⟨p, 0, none⟩)) := h52.drew.cell (i := 0) rfl
      have x7 : w2.drew.cell? ⟨b7, 0, none⟩ = some (.string gn) := h72.drew.cell (i := 0) rfl
      have x1 : w2.drew.cell? ⟨p, 1, none⟩ = some (.int .i64 bs) := P2.drew.cell (i := 1) rfl
      have al1 := (Below.refl w2.heap.size w2).alloc (Nat.le_refl _) (.cells #[.string ⟨#[]⟩, .int .i64 0] 68)
      have al0 : Below w2.drew.heap.size w2.drew (w2.alloc (.cells #[.string ⟨#[]⟩, .int .i64 0] 68)).drew := ⟨al1.os, al1.tape, al1.output, al1.size, al1.block⟩
      have y0 := Blk.fresh w2 68 [.string ⟨#[]⟩, .int .i64 0]
      replace y0 : Blk (w2.alloc (.cells #[.string ⟨#[]⟩, .int .i64 0] 68)).drew w2.heap.size 68 [.string ⟨#[]⟩, .int .i64 0] := y0
      have l5 := Nat.ne_of_lt h52.lt
      have l7 := Nat.ne_of_lt h72.lt
      have lp := Nat.ne_of_lt P2.lt
      have L5 := h52.lt
      have L7 := h72.lt
      have LP := P2.lt
      have dr : ∀ W, Below w2.drew.heap.size w2.drew W → Below w2.heap.size w2 W := fun W h => (below_drew (Below.refl _ w2)).trans h
      have DR := Lib.hid dr
      clear al1 dr
      have a5 := kept_cell al0 x5
      have a7 := kept_cell al0 x7
      have a1 := kept_cell al0 x1
      go_region_held3 (fun W => W.cell? ⟨b5, 0, none⟩ = some (.pointer (some ⟨p, 0, none⟩)) ∧ W.cell? ⟨b7, 0, none⟩ = some (.string gn) ∧ W.cell? ⟨p, 1, none⟩ = some (.int .i64 bs))
        (first
          | with_reducible exact ⟨x5, x7, x1⟩
          | with_reducible exact ⟨a5, a7, a1⟩
          | with_reducible exact ⟨c5, c7, c1⟩
          | with_reducible exact ⟨d5, d7, d1⟩
          | with_reducible exact ⟨e5, e7, e1⟩
          | ((with_reducible refine ⟨far2 ?_ ?_, far2 ?_ ?_, far2 ?_ ?_⟩) <;> with_reducible assumption))
        (first
          | (go_at_call 90; first
            | ((with_reducible refine (CL.out w2.drew).mono ?_); rintro e w3 ⟨rfl, hX⟩; have hsX : w2.heap.size ≤ w3.heap.size := hX.size; have m5 := Nat.ne_of_lt (Nat.lt_of_lt_of_le L5 hsX); have m7 := Nat.ne_of_lt (Nat.lt_of_lt_of_le L7 hsX); have mp := Nat.ne_of_lt (Nat.lt_of_lt_of_le LP hsX); have c5 := kept_cell hX x5; have c7 := kept_cell hX x7; have c1 := kept_cell hX x1; have hXb := hX.alloc hX.size (.cells #[.string ⟨#[]⟩, .int .i64 0] 68); have d5 := kept_cell hXb x5; have d7 := kept_cell hXb x7; have d1 := kept_cell hXb x1; have hXc := hX.alloc hX.size (.cells #[.string gn, .int .i64 bs] 68); have e5 := kept_cell hXc x5; have e7 := kept_cell hXc x7; have e1 := kept_cell hXc x1)
            | ((with_reducible refine (CL.out (w2.alloc (.cells #[.string ⟨#[]⟩, .int .i64 0] 68)).drew).mono ?_); rintro e w3 ⟨rfl, hc1⟩; have O := y0.below hc1 y0.lt; have hX := al0.trans (hc1.mono al0.size); have o0 := O.cell (i := 0) rfl; have o1 := O.cell (i := 1) rfl; have p0 := O.froz 0; have p1 := O.froz 1; have c5 := kept_cell hX x5; have c7 := kept_cell hX x7; have c1 := kept_cell hX x1)))
      all_goals
        go_wp2_with (fail)
        have hyy := DR.out _ hX
        go_meet
        case rel => first
          | with_reducible exact AdCut.late hyy
          | with_reducible exact AdCut.of O hyy (Nat.le_refl _)
    case rest =>
      obtain ⟨w3, ba, rfl, rfl, hba, O3, hb3⟩ := hcut
      have P3 := P2.below hb3 P2.lt
      have S3 : OwnS w3 lo (.slice A H.length a) H := row_below S2 hb3 (Nat.le_refl _)
      have G3 : OwnG w3 lo (.slice B G.length b) G := row_below G2 hb3 (Nat.le_refl _)
      have h53 := h52.below hb3 h52.lt
      have h93 := h92.below hb3 h92.lt
      have hb03 := hb02.trans (hb3.mono (Nat.le_trans hlow hb02.size))
      have KQ3 := Lib.hid (fun g cs (hg : g ≠ p) (h : Blk w g 31 cs) => (KQ.out g cs hg h).below hb3 (KQ.out g cs hg h).lt)
      go_wp2_with (fail)
      clear hb2 P2 S2 G2 h52 h92 hb02 KQ h72 CL
      have nb5 : ∀ k, B.map (·.block) = some k → b5 ≠ k := fun k e h => own_not G3 h53 (by decide) (by rw [own_blk, e, h])
      have nb9 : ∀ k, B.map (·.block) = some k → b9 ≠ k := fun k e h => own_not G3 h93 (by decide) (by rw [own_blk, e, h])
      have nbp : ∀ k, B.map (·.block) = some k → p ≠ k := fun k e h => own_not G3 P3 (by decide) (by rw [own_blk, e, h])
      have hl3 : lo ≤ w3.heap.size := Nat.le_trans hlow hb03.size
      have al1 := (Below.refl w3.heap.size w3).alloc (Nat.le_refl _) (.cells #[.string gn, .int .i64 bs] 68)
      have al0 : Below w3.heap.size w3 (w3.alloc (.cells #[.string gn, .int .i64 bs] 68)).drew := below_drew al1
      have hV : Blk (w3.alloc (.cells #[.string gn, .int .i64 bs] 68)).drew w3.heap.size 68 [.string gn, .int .i64 bs] := Blk.fresh w3 68 [.string gn, .int .i64 bs]
      have P4 := P3.below al0 P3.lt
      have h54 := h53.below al0 h53.lt
      have h94 := h93.below al0 h93.lt
      have O4 := O3.below al0 O3.lt
      have G4 : OwnG (w3.alloc (.cells #[.string gn, .int .i64 bs] 68)).drew lo (.slice B G.length b) G := row_below G3 al0 (Nat.le_refl _)
      have S4 : OwnS (w3.alloc (.cells #[.string gn, .int .i64 bs] 68)).drew lo (.slice A H.length a) H := row_below S3 al0 (Nat.le_refl _)
      have hb04 := hb03.trans (al0.mono hl3)
      have KQ4 := Lib.hid (fun g cs (hg : g ≠ p) (h : Blk w g 31 cs) => (KQ3.out g cs hg h).below al0 (KQ3.out g cs hg h).lt)
      have INS := Lib.hid (insert_any B G b k w3.heap.size lo ⟨gn, bs⟩ (w3.alloc (.cells #[.string gn, .int .i64 bs] 68)).drew G4 hG3 hpl hV (fun q e h => by have := (G3.lt q (by rw [own_blk, e])).2; omega) (Nat.le_trans hl3 al0.size))
      have x5 : w3.drew.cell? ⟨b5, 0, none⟩ = some (.pointer (some ⟨p, 0, none⟩)) := h53.drew.cell (i := 0) rfl
      have x3 : w3.drew.cell? ⟨p, 3, none⟩ = some (.slice B G.length b) := P3.drew.cell (i := 3) rfl
      have xa : w3.drew.cell? ⟨ba, 0, none⟩ = some (.string gn) := O3.drew.cell (i := 0) rfl
      have xb : w3.drew.cell? ⟨ba, 1, none⟩ = some (.int .i64 bs) := O3.drew.cell (i := 1) rfl
      have y5 := h54.cell (i := 0) rfl
      have y3 := P4.cell (i := 3) rfl
      have ya := O4.cell (i := 0) rfl
      have yb := O4.cell (i := 1) rfl
      have LEN := Lib.hid (insAt_len G hpl ⟨gn, bs⟩)
      have OLEN := Lib.hid (show ∀ (W : World) (B' : Option Addr) (b' : Nat), W.ownsRow lo 68 2 (.slice B' (G.length + 1) b') (G.length + 1) (gflat (insAt G k ⟨gn, bs⟩)) → ∃ bg, B' = some ⟨bg, 0, none⟩ from fun W B' b' h => by
        rcases h.2 with ⟨he, h0⟩ | ⟨g, cap, cur, he, _⟩
        · omega
        · injection he with e1; exact ⟨g, e1⟩)
      have G4L := Lib.hid G4
      have S4L := Lib.hid S4
      have P4L := Lib.hid P4
      have H5L := Lib.hid h54
      have H9L := Lib.hid h94
      clear O3 O4 hV al1 hba G4 S4 P4 h54 h94
      have ZZ := Lib.hid (show ∀ w4, (w3.alloc (.cells #[.string gn, .int .i64 bs] 68)).drew.grownBy w4 (B.map (·.block)) → w4.cell? ⟨b5, 0, none⟩ = some (.pointer (some ⟨p, 0, none⟩)) ∧ w4.cell? ⟨p, 3, none⟩ = some (.slice B G.length b) ∧ w4.frozen? ⟨p, 3, none⟩ = false from fun w4 hgr =>
        ⟨(H5L.out.grown hgr (fun e => nb5 _ e.symm rfl)).cell (i := 0) rfl, (P4L.out.grown hgr (fun e => nbp _ e.symm rfl)).cell (i := 3) rfl, (P4L.out.grown hgr (fun e => nbp _ e.symm rfl)).froz 3⟩)
      have FIN := Lib.hid (show ∀ (w4 : World) (B' : Option Addr) (b' : Nat), w4.ownsRow lo 68 2 (.slice B' (G.length + 1) b') (G.length + 1) (gflat (insAt G k ⟨gn, bs⟩)) → (w3.alloc (.cells #[.string gn, .int .i64 bs] 68)).drew.grownBy w4 (B.map (·.block)) → InCut w lo p b5 b9 nm bs H A a s n 47 (insAt G k ⟨gn, bs⟩) (w4.setCell ⟨p, 3, none⟩ (.slice B' (G.length + 1) b')) from fun w4 B' b' oI hgr => by
        obtain ⟨bg, rfl⟩ := OLEN.out _ _ _ oI
        have P5 := P4L.out.grown hgr (fun e => nbp _ e.symm rfl)
        have h55 := H5L.out.grown hgr (fun e => nb5 _ e.symm rfl)
        have h95 := H9L.out.grown hgr (fun e => nb9 _ e.symm rfl)
        have S5 := S4L.out.kept hgr (by rw [← own_blk B G.length b]; exact own_apart S4L.out G4L.out (by decide))
        have hb05 := below_row hb04 hlow hgr (fun k e => (G4L.out.lt k (by rw [own_blk, e])).1)
        have P6 := P5.put 3 (.slice (some ⟨bg, 0, none⟩) (G.length + 1) b')
        simp only [List.set_cons_succ, List.set_cons_zero] at P6
        have LE := LEN.out
        refine ⟨_, bg, b', rfl, ?_, ?_, row_off S5 (p := ⟨p, 3, none⟩) (own_not S5 P5 (by decide)) _, h55.far (p := ⟨p, 3, none⟩) n5 _, h95.far (p := ⟨p, 3, none⟩) n9 _, hb05.setCell (p := ⟨p, 3, none⟩) hl _, fun g cs hg h => ((KQ4.out g cs hg h).grown hgr (fun e => own_not G4L.out (KQ4.out g cs hg h) (by decide) (by rw [own_blk, ← e]))).far (p := ⟨p, 3, none⟩) hg _⟩
        · rw [LE]; exact P6
        · rw [LE]; exact row_off oI (p := ⟨p, 3, none⟩) (own_not oI P5 (by decide)) _)
      go_cut [4] (fun y wx => y = .int .i64 k ∧ InCut w lo p b5 b9 nm bs H A a s n 47 (insAt G k ⟨gn, bs⟩) wx)
      case first =>
        go_region_law
          (first
            | (go_simp; go_at_call 91; (with_reducible refine INS.out.mono ?_); rintro e w4 ⟨B', b', rfl, oI, hgr⟩; obtain ⟨z5, z3, zf⟩ := ZZ.out w4 hgr))
        all_goals
          have hfin := FIN.out w4 _ _ oI hgr
          clear x5 x3 xa xb y5 y3 ya yb z5 z3 zf INS ZZ
          go_wp2_with (fail)
          go_meet
          case rel => exact ⟨rfl, hfin⟩
      case rest =>
        obtain ⟨rfl, w6, bg, b', rfl, P6, G6, S6, h56, h96, hb06, kq6⟩ := hcut
        have KQ5 := Lib.hid kq6
        clear kq6 x5 x3 xa xb y5 y3 ya yb
        rw [LEN.out] at P6 G6
        have hk' : (k : Int) < (G.length : Int) + 1 := by omega
        go_wp2_with (fail)
        obtain ⟨I2, fv, hI2, v0, v6, vc, ve⟩ := class_grown w6
        have z3 := fun q => kept_cell (v6 q) (P6.cell (i := 3) rfl)
        have z5 := fun q => kept_cell (v6 q) (h56.cell (i := 0) rfl)
        have z9 := fun q => kept_cell (v6 q) (h96.cell (i := 0) rfl)
        have VE := Lib.hid ve
        clear v6 vc ve
        refine wp_region_class_tail (C := fun w' => ∃ q, w' = fv q) 8 (by kernel_rfl) (by kernel_rfl) v0 ?_
        simp only [List.take_succ_cons, List.take_zero, List.drop_succ_cons, List.drop_zero]
        repeat (first
          | go_big_quiet_skip
          | (go_big_quiet_want; go_big_quiet_op; go_big_quiet_on))
        refine wpQuiet_nil ?_
        intro w8 h8
        have hb8 := VE.out _ h8
        have P8 := P6.below hb8 P6.lt
        have S8 : OwnS w8 lo (.slice A H.length a) H := row_below S6 hb8 (Nat.le_refl _)
        have G8 := row_below G6 hb8 (Nat.le_refl _)
        have hb08 := hb06.trans (hb8.mono (Nat.le_trans hlow hb06.size))
        have K8 := Lib.hid (fun g cs (hg : g ≠ p) (h : Blk w g 31 cs) => (KQ5.out g cs hg h).below hb8 (KQ5.out g cs hg h).lt)
        have OP := HOPh.out w8 A a bg b' ⟨by simp only [HHe.out, LEN.out]; exact P8, S8, by simp only [HHe.out, LEN.out]; unfold OwnG; rw [LEN.out]; exact G8⟩
        have OPh := Lib.hid OP
        clear OP z3 z5 z9 h8 v0 VE
        go_wp2_with (fail)
        refine OPh.out.mono ?_
        rintro e w9 ⟨o1, o2, rfl, o4⟩
        go_wp2
        go_ret
        rw [HFe.out]
        exact OpPost.after hb08 K8.out ⟨o1, o2, rfl, o4⟩ hlow
end Go.Proofs.Ytkimieeabmjfgaa

namespace Go.Proofs.Ytkimieeabmjfgaa
open Go.RowKit Go.Deep
set_option linter.unusedVariables false
set_option maxRecDepth 1000000
theorem fet_small (t : Tpc) (gn : ByteArray) (n : Int) : (fetT t gn n).o.held.length ≤ maxLen ∧ (fetT t gn n).o.groups.length ≤ maxLen ∧ (fetT t gn n).texts.length ≤ maxLen ∧ 1 + (fetT t gn n).o.held.length + 2 * (fetT t gn n).o.groups.length + (fetT t gn n).texts.length ≤ 3900001 := by
  by_cases h : begC t gn (inB n 0 20) = 0
  · have ho := beg_top h
    have h1 := ho.2.2.1
    have h2 := ho.2.2.2.2.1
    have h3 := hasG_len t gn
    rw [fetT_ok h]
    simp [fetchA, maxLen]
    omega
  · rw [fetT_ill h]
    simp [ill, maxLen]
theorem specTopicFetch_any (t : Tpc) (gn : ByteArray) (n : Int) (A : Option Addr) (c : Nat) (B : Option Addr) (d : Nat) (w : World) (hf : t.fits) (hs : gn.size ≤ maxLen) (hn : (Lit.int .i64 n).wf = true) (hA : Strs w w.heap.size A t.held) (hB : Grs w w.heap.size B t.groups) (hc : Cap A t.held.length c) (hd : Cap B t.groups.length d) :
    Calls Try.prog 11 #[topV t.name t.base (.slice A t.held.length c) (.slice B t.groups.length d), .string gn, .int .i64 n] w fun e w' => SpO w w' e (fetT t gn n) := by
  obtain ⟨z1, z2, z3, z4⟩ := fet_small t gn n
  exact Calls.mono (R := fun e w' => ImO w w' e (fetT t gn n)) (specTopicFetch_im t gn n A c B d w hf hs hA hB hc hd) (fun e w' h => ImO.sp h z1 z2 z3)
theorem fetchT_of (t : Tpc) (gn : ByteArray) (n : Int) : fetT t gn n = rfR t gn (inB n 0 20) (fetchA ⟨t.name, t.base, t.held, hasG t gn⟩ (posG t.groups gn) n) := by
  rw [← forR_eq]; rfl
theorem fetchCL (t : Tpc) (gn : ByteArray) (n : Int) (r : Bool) (hr0 : inB n 0 20 = r) (lo p : Nat) (hp : lo ≤ p) (hsm : t.small) (W : World) (b5 b7 b9 : Nat) (A2 : Option Addr) (a2 : Nat) (B2 : Option Addr) (b2 : Nat) (hw : Wk W lo p t ⟨#[]⟩ n A2 a2 B2 b2) (ho : topOK t) (hr : r = true) (hg : gn.size ≤ 20000) (h5 : Blk W b5 109 [.pointer (some ⟨p, 0, none⟩)]) (h7 : Blk W b7 9 [.string gn]) (h9 : Blk W b9 75 [.func (.func 47) #[.pointer (some ⟨p, 0, none⟩)] #[]]) :
    Calls Try.prog 88 #[.pointer (some ⟨b5, 0, none⟩), .pointer (some ⟨b7, 0, none⟩), .pointer (some ⟨b9, 0, none⟩)] W (OpPost lo p ⟨#[]⟩ n (forA t gn (fetchA ⟨t.name, t.base, t.held, hasG t gn⟩ (posG t.groups gn) n)) W) :=
  forC_fetch t gn ⟨#[]⟩ n _ lo p b5 b7 b9 A2 a2 B2 b2 W hw ho hp (by omega) h5 h7 h9 (fun W' A3 a3 bg b3 h => fetch_any ⟨t.name, t.base, t.held, hasG t gn⟩ ⟨#[]⟩ n lo p bg (posG t.groups gn) A3 a3 b3 W' h hp ho.2.2.1 (fun x hx => by obtain ⟨i, hi, rfl⟩ := List.mem_iff_getElem.1 hx; exact hsm.2.1.2 i hi) (inB_true ho.2.1).1 ho.2.2.2.2.2.1 (hasG_lt t gn) (inB_true (hr0.trans hr)).1 (inB_true (hr0.trans hr)).2 (hasG_in t gn ho (hasG_lt t gn)).1 (hasG_in t gn ho (hasG_lt t gn)).2)
set_option maxHeartbeats 8000000 in
theorem implTopicFetch_any (t : Tpc) (gn : ByteArray) (n : Int) (A : Option Addr) (c : Nat) (B : Option Addr) (d : Nat) (w : World) (hf : t.fits) (hsm : t.small) (hs : gn.size ≤ maxLen) (hA : Strs w w.heap.size A t.held) (hB : Grs w w.heap.size B t.groups) :
    Calls Try.prog 13 #[topV t.name t.base (.slice A t.held.length c) (.slice B t.groups.length d), .string gn, .int .i64 n] w fun e w' => ImO w w' e (fetT t gn n) := by
  have HS := Lib.hid (fetchT_of t gn n)
  obtain ⟨rm, HM⟩ : ∃ x, Hid (inB n 0 20 = x) := ⟨_, Lib.hid rfl⟩
  have TX := inRange_any HM.out
  rw [HM.out] at HS
  have RN := Lib.hid (fun W p (h : Below w.heap.size w W) (hp : w.heap.size ≤ p) P => runFor2_any t gn ⟨#[]⟩ n rm (fetchA ⟨t.name, t.base, t.held, hasG t gn⟩ (posG t.groups gn) n) 47 w.heap.size p A c B d W hf hsm hs (hA.on h) (hB.on h) hp (fun W b5 b7 b9 A2 a2 B2 b2 hw ho hr hg h5 h7 h9 => fetchCL t gn n rm HM.out w.heap.size p hp hsm W b5 b7 b9 A2 a2 B2 b2 hw ho hr hg h5 h7 h9) P)
  obtain ⟨R, HR0⟩ : ∃ x, Hid (fetT t gn n = x) := ⟨_, Lib.hid rfl⟩
  rw [HR0.out] at HS ⊢
  rw [← HS.out] at RN
  clear HS HR0
  obtain ⟨nm, bs, H, G⟩ := t
  simp only at RN hA hB ⊢
  have K := (Blk.fresh w 29 [.string nm, .int .i64 bs, .slice A H.length c, .slice B G.length d]).alloc (.cells #[.string ⟨#[]⟩, .int .i64 0, .slice none 0 0, .slice none 0 0, .slice none 0 0, .int .i64 0, .int .i64 0] 31)
  have O := Blk.fresh (w.alloc (.cells #[.string nm, .int .i64 bs, .slice A H.length c, .slice B G.length d] 29)) 31 [.string ⟨#[]⟩, .int .i64 0, .slice none 0 0, .slice none 0 0, .slice none 0 0, .int .i64 0, .int .i64 0]
  have hb : Below w.heap.size w ((w.alloc (.cells #[.string nm, .int .i64 bs, .slice A H.length c, .slice B G.length d] 29)).alloc (.cells #[.string ⟨#[]⟩, .int .i64 0, .slice none 0 0, .slice none 0 0, .slice none 0 0, .int .i64 0, .int .i64 0] 31)) := ((Below.refl _ _).alloc (Nat.le_refl _) _).alloc (by simp) _
  simp only [World.size_alloc] at K O
  replace K : Blk ((w.alloc (.cells #[.string nm, .int .i64 bs, .slice A H.length c, .slice B G.length d] 29)).alloc (.cells #[.string ⟨#[]⟩, .int .i64 0, .slice none 0 0, .slice none 0 0, .slice none 0 0, .int .i64 0, .int .i64 0] 31)) w.heap.size 29 [.string nm, .int .i64 bs, .slice A H.length c, .slice B G.length d] := K
  replace O : Blk ((w.alloc (.cells #[.string nm, .int .i64 bs, .slice A H.length c, .slice B G.length d] 29)).alloc (.cells #[.string ⟨#[]⟩, .int .i64 0, .slice none 0 0, .slice none 0 0, .slice none 0 0, .int .i64 0, .int .i64 0] 31)) (w.heap.size + 1) 31 [.string ⟨#[]⟩, .int .i64 0, .slice none 0 0, .slice none 0 0, .slice none 0 0, .int .i64 0, .int .i64 0] := O
  have hz1 : ((w.alloc (.cells #[.string nm, .int .i64 bs, .slice A H.length c, .slice B G.length d] 29)).alloc (.cells #[.string ⟨#[]⟩, .int .i64 0, .slice none 0 0, .slice none 0 0, .slice none 0 0, .int .i64 0, .int .i64 0] 31)).heap.size = w.heap.size + 1 + 1 := by simp
  have hK := K.alloc (.cells #[.string ⟨#[]⟩, .int .i64 0, .slice none 0 0, .slice none 0 0, .string ⟨#[]⟩, .int .i64 n, .slice none 0 0, .int .i64 0] 73)
  have hO := O.alloc (.cells #[.string ⟨#[]⟩, .int .i64 0, .slice none 0 0, .slice none 0 0, .string ⟨#[]⟩, .int .i64 n, .slice none 0 0, .int .i64 0] 73)
  have hP := Blk.fresh ((w.alloc (.cells #[.string nm, .int .i64 bs, .slice A H.length c, .slice B G.length d] 29)).alloc (.cells #[.string ⟨#[]⟩, .int .i64 0, .slice none 0 0, .slice none 0 0, .slice none 0 0, .int .i64 0, .int .i64 0] 31)) 73 [.string ⟨#[]⟩, .int .i64 0, .slice none 0 0, .slice none 0 0, .string ⟨#[]⟩, .int .i64 n, .slice none 0 0, .int .i64 0]
  rw [hz1] at hP
  have hb2 := hb.alloc hb.size (.cells #[.string ⟨#[]⟩, .int .i64 0, .slice none 0 0, .slice none 0 0, .string ⟨#[]⟩, .int .i64 n, .slice none 0 0, .int .i64 0] 73)
  clear hz1 K O hb
  go_enter Try.func13, Try.ntmps13
  go_wp2_with (fail)
  generalize ((w.alloc (.cells #[.string nm, .int .i64 bs, .slice A H.length c, .slice B G.length d] 29)).alloc (.cells #[.string ⟨#[]⟩, .int .i64 0, .slice none 0 0, .slice none 0 0, .slice none 0 0, .int .i64 0, .int .i64 0] 31)).alloc (.cells #[.string ⟨#[]⟩, .int .i64 0, .slice none 0 0, .slice none 0 0, .string ⟨#[]⟩, .int .i64 n, .slice none 0 0, .int .i64 0] 73) = w2 at hK hO hP hb2 ⊢
  have TXb := Lib.hid (fun W => bl (TX W))
  clear TX
  obtain ⟨I, fw, hI, g5', h6, g6', g7'⟩ := class_grown w2
  have kk0 := fun q => kept_cell (h6 q) (hK.cell (i := 0) rfl)
  have kk1 := fun q => kept_cell (h6 q) (hK.cell (i := 1) rfl)
  have kk2 := fun q => kept_cell (h6 q) (hK.cell (i := 2) rfl)
  have kk3 := fun q => kept_cell (h6 q) (hK.cell (i := 3) rfl)
  have G7 := Lib.hid g7'
  have G6 := Lib.hid g6'
  clear h6 g7' g6'
  refine wp_region_class_tail (C := fun w' => ∃ q, w' = fw q) 5 (by kernel_rfl) (by kernel_rfl) g5' ?_
  simp only [List.take_succ_cons, List.take_zero, List.drop_succ_cons, List.drop_zero]
  repeat (first
    | go_big_quiet_skip
    | (go_big_quiet_want; go_big_quiet_op; first | go_big_quiet_on | (apply Exists.intro; refine ⟨fun q => ?_, ?_⟩; (go_at_call 46; (with_reducible refine (TXb.out _).mono ?_); rintro e w9 ⟨rfl, hb9'⟩; exact ⟨rfl, G6.out _ _ hb9'⟩); go_big_quiet_on)))
  refine wpQuiet_nil ?_
  intro w5 h5
  have hb5 := G7.out _ h5
  have hP5 := hP.below hb5 hP.lt
  have hO5 := hO.below hb5 hO.lt
  have hw5 := hb2.trans (hb5.mono hb2.size)
  clear kk0 kk1 kk2 kk3 g5' h5 hK hP hO hb5 hb2
  have RN5 := RN.out w5 (w.heap.size + 1 + 1) hw5 (by omega) hP5
  go_wp2_with (fail)
  obtain ⟨⟨on, ob, oH, oG⟩, N, rn, co⟩ := R
  clear RN
  refine RN5.mono ?_
  rintro e w6 ⟨⟨A1, a1, B1, b1, T1, x1, rfl, sA, sB, sT, hap, cA, cB, hb6⟩, kp⟩
  simp only at sA sB sT cA cB
  have O := kp _ _ (by omega) hO5
  have hb := hw5.trans hb6
  clear RN5 kp hO5 hP5 hb6 hw5
  have qc0 := O.cell (i := 0) rfl
  have qf0 := O.froz 0
  have qc1 := O.cell (i := 1) rfl
  have qf1 := O.froz 1
  have qc2 := O.cell (i := 2) rfl
  have qf2 := O.froz 2
  have qc3 := O.cell (i := 3) rfl
  have qf3 := O.froz 3
  have qc4 := O.cell (i := 4) rfl
  have qf4 := O.froz 4
  have qc5 := O.cell (i := 5) rfl
  have qf5 := O.froz 5
  have qc6 := O.cell (i := 6) rfl
  have qf6 := O.froz 6
  go_wp2
  clear qc0 qf0 qc1 qf1 qc2 qf2 qc3 qf3 qc4 qf4 qc5 qf5 qc6 qf6
  have hsz : (((((((w6.setCell ⟨w.heap.size + 1, 0, none⟩ (.string on)).setCell ⟨w.heap.size + 1, 1, none⟩ (.int .i64 ob)).setCell ⟨w.heap.size + 1, 2, none⟩ (.slice A1 oH.length a1)).setCell ⟨w.heap.size + 1, 3, none⟩ (.slice B1 oG.length b1)).setCell ⟨w.heap.size + 1, 4, none⟩ (.slice T1 N.length x1)).setCell ⟨w.heap.size + 1, 5, none⟩ (.int .i64 rn)).setCell ⟨w.heap.size + 1, 6, none⟩ (.int .i64 co)).heap.size = w6.heap.size := by simp [World.setCell]
  have rA := (((((((sA.off O (by decide) 0 (.string on)).off (O.put 0 (.string on)) (by decide) 1 (.int .i64 ob)).off ((O.put 0 (.string on)).put 1 (.int .i64 ob)) (by decide) 2 (.slice A1 oH.length a1)).off (((O.put 0 (.string on)).put 1 (.int .i64 ob)).put 2 (.slice A1 oH.length a1)) (by decide) 3 (.slice B1 oG.length b1)).off ((((O.put 0 (.string on)).put 1 (.int .i64 ob)).put 2 (.slice A1 oH.length a1)).put 3 (.slice B1 oG.length b1)) (by decide) 4 (.slice T1 N.length x1)).off (((((O.put 0 (.string on)).put 1 (.int .i64 ob)).put 2 (.slice A1 oH.length a1)).put 3 (.slice B1 oG.length b1)).put 4 (.slice T1 N.length x1)) (by decide) 5 (.int .i64 rn)).off ((((((O.put 0 (.string on)).put 1 (.int .i64 ob)).put 2 (.slice A1 oH.length a1)).put 3 (.slice B1 oG.length b1)).put 4 (.slice T1 N.length x1)).put 5 (.int .i64 rn)) (by decide) 6 (.int .i64 co))
  have rB := (((((((sB.off O (by decide) 0 (.string on)).off (O.put 0 (.string on)) (by decide) 1 (.int .i64 ob)).off ((O.put 0 (.string on)).put 1 (.int .i64 ob)) (by decide) 2 (.slice A1 oH.length a1)).off (((O.put 0 (.string on)).put 1 (.int .i64 ob)).put 2 (.slice A1 oH.length a1)) (by decide) 3 (.slice B1 oG.length b1)).off ((((O.put 0 (.string on)).put 1 (.int .i64 ob)).put 2 (.slice A1 oH.length a1)).put 3 (.slice B1 oG.length b1)) (by decide) 4 (.slice T1 N.length x1)).off (((((O.put 0 (.string on)).put 1 (.int .i64 ob)).put 2 (.slice A1 oH.length a1)).put 3 (.slice B1 oG.length b1)).put 4 (.slice T1 N.length x1)) (by decide) 5 (.int .i64 rn)).off ((((((O.put 0 (.string on)).put 1 (.int .i64 ob)).put 2 (.slice A1 oH.length a1)).put 3 (.slice B1 oG.length b1)).put 4 (.slice T1 N.length x1)).put 5 (.int .i64 rn)) (by decide) 6 (.int .i64 co))
  have rT := (((((((sT.off O (by decide) 0 (.string on)).off (O.put 0 (.string on)) (by decide) 1 (.int .i64 ob)).off ((O.put 0 (.string on)).put 1 (.int .i64 ob)) (by decide) 2 (.slice A1 oH.length a1)).off (((O.put 0 (.string on)).put 1 (.int .i64 ob)).put 2 (.slice A1 oH.length a1)) (by decide) 3 (.slice B1 oG.length b1)).off ((((O.put 0 (.string on)).put 1 (.int .i64 ob)).put 2 (.slice A1 oH.length a1)).put 3 (.slice B1 oG.length b1)) (by decide) 4 (.slice T1 N.length x1)).off (((((O.put 0 (.string on)).put 1 (.int .i64 ob)).put 2 (.slice A1 oH.length a1)).put 3 (.slice B1 oG.length b1)).put 4 (.slice T1 N.length x1)) (by decide) 5 (.int .i64 rn)).off ((((((O.put 0 (.string on)).put 1 (.int .i64 ob)).put 2 (.slice A1 oH.length a1)).put 3 (.slice B1 oG.length b1)).put 4 (.slice T1 N.length x1)).put 5 (.int .i64 rn)) (by decide) 6 (.int .i64 co))
  have O9 := (((((((O.put 0 (.string on)).put 1 (.int .i64 ob)).put 2 (.slice A1 oH.length a1)).put 3 (.slice B1 oG.length b1)).put 4 (.slice T1 N.length x1)).put 5 (.int .i64 rn)).put 6 (.int .i64 co))
  have hb9 := (((((((hb.setCell (p := ⟨w.heap.size + 1, 0, none⟩) (by simp <;> omega) (.string on)).setCell (p := ⟨w.heap.size + 1, 1, none⟩) (by simp <;> omega) (.int .i64 ob)).setCell (p := ⟨w.heap.size + 1, 2, none⟩) (by simp <;> omega) (.slice A1 oH.length a1)).setCell (p := ⟨w.heap.size + 1, 3, none⟩) (by simp <;> omega) (.slice B1 oG.length b1)).setCell (p := ⟨w.heap.size + 1, 4, none⟩) (by simp <;> omega) (.slice T1 N.length x1)).setCell (p := ⟨w.heap.size + 1, 5, none⟩) (by simp <;> omega) (.int .i64 rn)).setCell (p := ⟨w.heap.size + 1, 6, none⟩) (by simp <;> omega) (.int .i64 co))
  simp only [List.set_cons_succ, List.set_cons_zero] at O9
  generalize ((((((w6.setCell ⟨w.heap.size + 1, 0, none⟩ (.string on)).setCell ⟨w.heap.size + 1, 1, none⟩ (.int .i64 ob)).setCell ⟨w.heap.size + 1, 2, none⟩ (.slice A1 oH.length a1)).setCell ⟨w.heap.size + 1, 3, none⟩ (.slice B1 oG.length b1)).setCell ⟨w.heap.size + 1, 4, none⟩ (.slice T1 N.length x1)).setCell ⟨w.heap.size + 1, 5, none⟩ (.int .i64 rn)).setCell ⟨w.heap.size + 1, 6, none⟩ (.int .i64 co) = w9 at O9 hb9 hsz rA rB rT  ⊢
  have oc0 := O9.cell (i := 0) rfl
  have oc1 := O9.cell (i := 1) rfl
  have oc2 := O9.cell (i := 2) rfl
  have oc3 := O9.cell (i := 3) rfl
  have oc4 := O9.cell (i := 4) rfl
  have oc5 := O9.cell (i := 5) rfl
  have oc6 := O9.cell (i := 6) rfl
  exact bodyPost_ret (v := .agg #[.string on, .int .i64 ob, .slice A1 oH.length a1, .slice B1 oG.length b1, .slice T1 N.length x1, .int .i64 rn, .int .i64 co]) (by simp [results, Try.results13, go_sem, oc0, oc1, oc2, oc3, oc4, oc5, oc6]) rfl (pub_out hsz rA rB rT hap cA cB hb9)
/-- The two answer alike. -/
theorem bothTopicFetch (t : Tpc) (gn : ByteArray) (n : Int) (hf : t.fits) (hS : t.small) (hs : gn.size ≤ maxLen) (hn : (Lit.int .i64 n).wf = true) (hbg : gn.size ≤ 1048576) :
    ∃ (o : Tpc) (N : List ByteArray) (m co : Int), o.held.length ≤ maxLen ∧ o.groups.length ≤ maxLen ∧ N.length ≤ maxLen ∧ 1 + o.held.length + 2 * o.groups.length + N.length ≤ 3900001 ∧
      (∀ A c B d w, Strs w w.heap.size A t.held → Grs w w.heap.size B t.groups → Cap A t.held.length c → Cap B t.groups.length d → Calls Try.prog 11 #[topV t.name t.base (.slice A t.held.length c) (.slice B t.groups.length d), .string gn, .int .i64 n] w fun e w' => SpO w w' e ⟨o, N, m, co⟩) ∧
      (∀ A c B d w, Strs w w.heap.size A t.held → Grs w w.heap.size B t.groups → Cap A t.held.length c → Cap B t.groups.length d → Calls Try.prog 13 #[topV t.name t.base (.slice A t.held.length c) (.slice B t.groups.length d), .string gn, .int .i64 n] w fun e w' => ImO w w' e ⟨o, N, m, co⟩) :=
  ⟨(fetT t gn n).o, (fetT t gn n).texts, (fetT t gn n).n, (fetT t gn n).code, (fet_small t gn n).1, (fet_small t gn n).2.1, (fet_small t gn n).2.2.1, (fet_small t gn n).2.2.2, fun A c B d w h1 h2 h3 h4 => specTopicFetch_any t gn n A c B d w hf hs hn h1 h2 h3 h4, fun A c B d w h1 h2 _ _ => implTopicFetch_any t gn n A c B d w hf hS hs h1 h2⟩
end Go.Proofs.Ytkimieeabmjfgaa

namespace Go.Proofs.Ytkimieeabmjfgaa
open Go.RowKit
set_option linter.unusedVariables false

set_option maxHeartbeats 8000000 in
set_option maxRecDepth 1000000 in
theorem lawTopicFetch (t : Tpc) (A : Option Addr) (c : Nat) (B : Option Addr) (d : Nat) (gs : ByteArray) (nn : Int) (w : World) (hf : t.fits) (hA : Strs w w.heap.size A t.held) (hB : Grs w w.heap.size B t.groups) (hgs : gs.size ≤ maxLen) (hnn : (Lit.int .i64 nn).wf = true) :
    Calls Try.prog 3 #[topV t.name t.base (.slice A t.held.length c) (.slice B t.groups.length d), .string gs, .int .i64 nn] w fun e w' => e = .returned (.bool true) ∧ Below w.heap.size w w' := by
  obtain ⟨nm, bs, H, G⟩ := t
  simp only at hA hB ⊢
  have HA : Hid (∀ W, Below w.heap.size w W → Strs W W.heap.size A H) := Lib.hid fun W h => hA.on h
  have HB : Hid (∀ W, Below w.heap.size w W → Grs W W.heap.size B G) := Lib.hid fun W h => hB.on h
  have hB0 := Blk.fresh w 25 [.string nm, .int .i64 bs, .slice A H.length c, .slice B G.length d]
  have hb0 : Below w.heap.size w (w.alloc (.cells #[.string nm, .int .i64 bs, .slice A H.length c, .slice B G.length d] 25)) := (Below.refl _ _).alloc (Nat.le_refl _) _
  have hz0 : (w.alloc (.cells #[.string nm, .int .i64 bs, .slice A H.length c, .slice B G.length d] 25)).heap.size = w.heap.size + 1 := by simp
  simp only [List.toArray] at hB0
  by_cases hbiggs : 1048576 < gs.size
  · have hbig' : (1048576 : Int) < (gs.size : Int) := by omega
    have hmx := hgs
    unfold maxLen at hmx
    go_enter Try.func3, Try.ntmps3
    go_wp2
    go_ret
    exact ⟨rfl, hb0⟩
  have hbiggs' : ¬ (1048576 : Int) < (gs.size : Int) := by omega
  go_enter Try.func3, Try.ntmps3
  have q0 := hB0.cell (i := 0) rfl
  have q1 := hB0.cell (i := 1) rfl
  have q2 := hB0.cell (i := 2) rfl
  have q3 := hB0.cell (i := 3) rfl
  go_wp2_with (fail)
  clear q0 q1 q2 q3
  generalize w.alloc (.cells #[.string nm, .int .i64 bs, .slice A H.length c, .slice B G.length d] 25) = v0 at hB0 hb0 hz0 ⊢
  refine (szTopic_any ⟨nm, bs, H, G⟩ A c B d _ hf (HA.out _ hb0) (HB.out _ hb0)).mono ?_
  rintro e v1 ⟨r, rfl, r0, r1, hS, hb1⟩
  have hz1 := hb1.size
  have hB1 := hB0.below hb1 (by omega)
  have hw1 := hb0.trans (hb1.mono (by omega))
  clear hB0
  by_cases hr : r < 0
  · go_wp2
    go_ret
    exact ⟨rfl, hw1⟩
  · have hS' := hS (by omega)
    have hnH : H.length ≤ 1048576 := hS'.2.1.1
    have hnG : G.length ≤ 1048576 := hS'.2.2.1
    obtain ⟨o, N, n, co, hOH, hOG, hN, hsum, hsp, him⟩ := bothTopicFetch ⟨nm, bs, H, G⟩ gs nn hf hS' hgs hnn (by omega)
    have Sp := Lib.hid hsp
    have Im := Lib.hid him
    clear hsp him
    obtain ⟨onm, obs, OH, OG⟩ := o
    simp only at hOH hOG hsum Sp Im
    obtain ⟨m1, Hm1⟩ : ∃ m, Hid (1 + H.length + 2 * G.length = m) := ⟨_, Lib.hid rfl⟩
    obtain ⟨m3, Hm3⟩ : ∃ m, Hid (1 + OH.length + 2 * OG.length + N.length = m) := ⟨_, Lib.hid rfl⟩
    have hm1 : 1 ≤ m1 ∧ m1 ≤ 3145729 := by have := Hm1.out; omega
    have hm3 : 1 ≤ m3 ∧ m3 ≤ 3900001 := by have := Hm3.out; omega
    have chB0 := hB1.cell (i := 0) rfl
    have chB1 := hB1.cell (i := 1) rfl
    have chB2 := hB1.cell (i := 2) rfl
    have chB3 := hB1.cell (i := 3) rfl
    go_wp2_with (fail)
    refine (toTopic_any ⟨nm, bs, H, G⟩ A c B d _ hS' (HA.out _ hw1) (HB.out _ hw1)).mono ?_
    rintro e v2 ⟨g2, c2, h2, d2, rfl, TS2, TG2, _, hb2⟩
    have hz2 := hb2.size
    have hB2 := hB1.below hb2 hB1.lt
    have hw2 := hw1.trans (hb2.mono hw1.size)
    clear hB1
    clear chB0 chB1 chB2 chB3
    go_wp2_with (fail)
    refine (Sp.out _ _ _ _ _ TS2.strs TG2.grs (Cap.own TS2.1) (Cap.own TG2.1)).mono ?_
    rintro e v3 ⟨A3, a3, B3, b3, T3, x3, rfl, RS3, RG3, RT3, _, _, hb3⟩
    have hz3 := hb3.size
    have hB3 := hB2.below hb3 hB2.lt
    have TS3 := TS2.below hb3
    have TG3 := TG2.below hb3
    have hw3 := hw2.trans (hb3.mono hw2.size)
    clear hB2 TS2 TG2
    clear TS3 TG3
    have hS_4 := Blk.fresh v3 31 [.string onm, .int .i64 obs, .slice A3 OH.length a3, .slice B3 OG.length b3, .slice T3 N.length x3, .int .i64 n, .int .i64 co]
    replace hS_4 : Blk (v3.alloc (.cells #[.string onm, .int .i64 obs, .slice A3 OH.length a3, .slice B3 OG.length b3, .slice T3 N.length x3, .int .i64 n, .int .i64 co] 31)) v3.heap.size 31 [.string onm, .int .i64 obs, .slice A3 OH.length a3, .slice B3 OG.length b3, .slice T3 N.length x3, .int .i64 n, .int .i64 co] := hS_4
    have hb4 : Below v3.heap.size v3 (v3.alloc (.cells #[.string onm, .int .i64 obs, .slice A3 OH.length a3, .slice B3 OG.length b3, .slice T3 N.length x3, .int .i64 n, .int .i64 co] 31)) := (Below.refl _ _).alloc (Nat.le_refl _) _
    have hs4 : (v3.alloc (.cells #[.string onm, .int .i64 obs, .slice A3 OH.length a3, .slice B3 OG.length b3, .slice T3 N.length x3, .int .i64 n, .int .i64 co] 31)).heap.size = v3.heap.size + 1 := by simp
    have qhB0 := (hB3.below hb4 hB3.lt).cell (i := 0) rfl
    have qhB1 := (hB3.below hb4 hB3.lt).cell (i := 1) rfl
    have qhB2 := (hB3.below hb4 hB3.lt).cell (i := 2) rfl
    have qhB3 := (hB3.below hb4 hB3.lt).cell (i := 3) rfl
    have qq0 := hS_4.cell (i := 0) rfl
    have qq1 := hS_4.cell (i := 1) rfl
    have qq2 := hS_4.cell (i := 2) rfl
    have qq3 := hS_4.cell (i := 3) rfl
    have qq4 := hS_4.cell (i := 4) rfl
    have qq5 := hS_4.cell (i := 5) rfl
    have qq6 := hS_4.cell (i := 6) rfl
    go_wp2_with (fail)
    clear qhB0 qhB1 qhB2 qhB3 qq0 qq1 qq2 qq3 qq4 qq5 qq6
    generalize v3.alloc (.cells #[.string onm, .int .i64 obs, .slice A3 OH.length a3, .slice B3 OG.length b3, .slice T3 N.length x3, .int .i64 n, .int .i64 co] 31) = v4 at hS_4 hb4 hs4 ⊢
    have hz4 := hb4.size
    have hB4 := hB3.below hb4 hB3.lt
    have RS4 := RS3.below hb4 (by omega)
    have RG4 := RG3.below hb4 (by omega)
    have RT4 := RT3.below hb4 (by omega)
    have hw4 := hw3.trans (hb4.mono hw3.size)
    clear hB3 RS3 RG3 RT3
    have chB0 := hB4.cell (i := 0) rfl
    have chB1 := hB4.cell (i := 1) rfl
    have chB2 := hB4.cell (i := 2) rfl
    have chB3 := hB4.cell (i := 3) rfl
    go_wp2_with (fail)
    refine (toTopic_any ⟨nm, bs, H, G⟩ A c B d _ hS' (HA.out _ hw4) (HB.out _ hw4)).mono ?_
    rintro e v5 ⟨g5, c5, h5, d5, rfl, XS5, XG5, _, hb5⟩
    have hz5 := hb5.size
    have hB5 := hB4.below hb5 hB4.lt
    have hS_5 := hS_4.below hb5 hS_4.lt
    have RS5 := RS4.below hb5 (by omega)
    have RG5 := RG4.below hb5 (by omega)
    have RT5 := RT4.below hb5 (by omega)
    have hw5 := hw4.trans (hb5.mono hw4.size)
    clear hB4 hS_4 RS4 RG4 RT4
    clear chB0 chB1 chB2 chB3
    have hP6 := Blk.fresh v5 29 [.string nm, .int .i64 bs, .slice (some ⟨g5, 0, none⟩) H.length c5, .slice (some ⟨h5, 0, none⟩) G.length d5]
    replace hP6 : Blk (v5.alloc (.cells #[.string nm, .int .i64 bs, .slice (some ⟨g5, 0, none⟩) H.length c5, .slice (some ⟨h5, 0, none⟩) G.length d5] 29)) v5.heap.size 29 [.string nm, .int .i64 bs, .slice (some ⟨g5, 0, none⟩) H.length c5, .slice (some ⟨h5, 0, none⟩) G.length d5] := hP6
    have hb6 : Below v5.heap.size v5 (v5.alloc (.cells #[.string nm, .int .i64 bs, .slice (some ⟨g5, 0, none⟩) H.length c5, .slice (some ⟨h5, 0, none⟩) G.length d5] 29)) := (Below.refl _ _).alloc (Nat.le_refl _) _
    have hs6 : (v5.alloc (.cells #[.string nm, .int .i64 bs, .slice (some ⟨g5, 0, none⟩) H.length c5, .slice (some ⟨h5, 0, none⟩) G.length d5] 29)).heap.size = v5.heap.size + 1 := by simp
    have qq0 := hP6.cell (i := 0) rfl
    have qq1 := hP6.cell (i := 1) rfl
    have qq2 := hP6.cell (i := 2) rfl
    have qq3 := hP6.cell (i := 3) rfl
    go_wp2_with (fail)
    clear qq0 qq1 qq2 qq3
    generalize v5.alloc (.cells #[.string nm, .int .i64 bs, .slice (some ⟨g5, 0, none⟩) H.length c5, .slice (some ⟨h5, 0, none⟩) G.length d5] 29) = v6 at hP6 hb6 hs6 ⊢
    have hz6 := hb6.size
    have hB6 := hB5.below hb6 hB5.lt
    have hS_6 := hS_5.below hb6 hS_5.lt
    have XS6 := XS5.below hb6
    have XG6 := XG5.below hb6
    have RS6 := RS5.below hb6 (by omega)
    have RG6 := RG5.below hb6 (by omega)
    have RT6 := RT5.below hb6 (by omega)
    have hw6 := hw5.trans (hb6.mono hw5.size)
    clear hB5 hS_5 XS5 XG5 RS5 RG5 RT5
    have chP0 := hP6.cell (i := 0) rfl
    have chP1 := hP6.cell (i := 1) rfl
    have chP2 := hP6.cell (i := 2) rfl
    have chP3 := hP6.cell (i := 3) rfl
    go_wp2_with (fail)
    refine (Im.out _ _ _ _ _ XS6.strs XG6.grs (Cap.own XS6.1) (Cap.own XG6.1)).mono ?_
    rintro e v7 ⟨A7, a7, B7, b7, T7, x7, rfl, GS7, GG7, GT7, hap7, _, _, hb7⟩
    have hz7 := hb7.size
    have hB7 := hB6.below hb7 hB6.lt
    have hS_7 := hS_6.below hb7 hS_6.lt
    have hP7 := hP6.below hb7 hP6.lt
    have XS7 := XS6.below hb7
    have XG7 := XG6.below hb7
    have RS7 := RS6.below hb7 (by omega)
    have RG7 := RG6.below hb7 (by omega)
    have RT7 := RT6.below hb7 (by omega)
    have hw7 := hw6.trans (hb7.mono hw6.size)
    clear hB6 hS_6 hP6 XS6 XG6 RS6 RG6 RT6
    clear chP0 chP1 chP2 chP3
    have hQ8 := Blk.fresh v7 31 [.string onm, .int .i64 obs, .slice A7 OH.length a7, .slice B7 OG.length b7, .slice T7 N.length x7, .int .i64 n, .int .i64 co]
    replace hQ8 : Blk (v7.alloc (.cells #[.string onm, .int .i64 obs, .slice A7 OH.length a7, .slice B7 OG.length b7, .slice T7 N.length x7, .int .i64 n, .int .i64 co] 31)) v7.heap.size 31 [.string onm, .int .i64 obs, .slice A7 OH.length a7, .slice B7 OG.length b7, .slice T7 N.length x7, .int .i64 n, .int .i64 co] := hQ8
    have hb8 : Below v7.heap.size v7 (v7.alloc (.cells #[.string onm, .int .i64 obs, .slice A7 OH.length a7, .slice B7 OG.length b7, .slice T7 N.length x7, .int .i64 n, .int .i64 co] 31)) := (Below.refl _ _).alloc (Nat.le_refl _) _
    have hs8 : (v7.alloc (.cells #[.string onm, .int .i64 obs, .slice A7 OH.length a7, .slice B7 OG.length b7, .slice T7 N.length x7, .int .i64 n, .int .i64 co] 31)).heap.size = v7.heap.size + 1 := by simp
    have qhS_0 := (hS_7.below hb8 hS_7.lt).cell (i := 0) rfl
    have qhS_1 := (hS_7.below hb8 hS_7.lt).cell (i := 1) rfl
    have qhS_2 := (hS_7.below hb8 hS_7.lt).cell (i := 2) rfl
    have qhS_3 := (hS_7.below hb8 hS_7.lt).cell (i := 3) rfl
    have qhS_4 := (hS_7.below hb8 hS_7.lt).cell (i := 4) rfl
    have qhS_5 := (hS_7.below hb8 hS_7.lt).cell (i := 5) rfl
    have qhS_6 := (hS_7.below hb8 hS_7.lt).cell (i := 6) rfl
    have qq0 := hQ8.cell (i := 0) rfl
    have qq1 := hQ8.cell (i := 1) rfl
    have qq2 := hQ8.cell (i := 2) rfl
    have qq3 := hQ8.cell (i := 3) rfl
    have qq4 := hQ8.cell (i := 4) rfl
    have qq5 := hQ8.cell (i := 5) rfl
    have qq6 := hQ8.cell (i := 6) rfl
    go_wp2_with (fail)
    clear qhS_0 qhS_1 qhS_2 qhS_3 qhS_4 qhS_5 qhS_6 qq0 qq1 qq2 qq3 qq4 qq5 qq6
    generalize v7.alloc (.cells #[.string onm, .int .i64 obs, .slice A7 OH.length a7, .slice B7 OG.length b7, .slice T7 N.length x7, .int .i64 n, .int .i64 co] 31) = v8 at hQ8 hb8 hs8 ⊢
    have hz8 := hb8.size
    have hB8 := hB7.below hb8 hB7.lt
    have hS_8 := hS_7.below hb8 hS_7.lt
    have hP8 := hP7.below hb8 hP7.lt
    have XS8 := XS7.below hb8
    have XG8 := XG7.below hb8
    have RS8 := RS7.below hb8 (by omega)
    have RG8 := RG7.below hb8 (by omega)
    have RT8 := RT7.below hb8 (by omega)
    have GS8 := GS7.below hb8
    have GG8 := GG7.below hb8
    have GT8 := GT7.below hb8
    have hw8 := hw7.trans (hb8.mono hw7.size)
    clear hB7 hS_7 hP7 XS7 XG7 RS7 RG7 RT7 GS7 GG7 GT7
    have chQ0 := hQ8.cell (i := 0) rfl
    have chQ1 := hQ8.cell (i := 1) rfl
    have chQ2 := hQ8.cell (i := 2) rfl
    have chQ3 := hQ8.cell (i := 3) rfl
    have chQ4 := hQ8.cell (i := 4) rfl
    have chQ5 := hQ8.cell (i := 5) rfl
    have chQ6 := hQ8.cell (i := 6) rfl
    have chS_0 := hS_8.cell (i := 0) rfl
    have chS_1 := hS_8.cell (i := 1) rfl
    have chS_2 := hS_8.cell (i := 2) rfl
    have chS_3 := hS_8.cell (i := 3) rfl
    have chS_4 := hS_8.cell (i := 4) rfl
    have chS_5 := hS_8.cell (i := 5) rfl
    have chS_6 := hS_8.cell (i := 6) rfl
    go_wp2_with (fail)
    refine (eqTopicOut_same onm obs _ _ _ _ _ _ OH OG N n co _ _ _ _ _ _ _ (GS8.strs hOH) (RS8.mono (by omega)) (GG8.grs hOG) (RG8.mono (by omega)) (GT8.strs hN) (RT8.mono (by omega))).mono ?_
    rintro e v9 ⟨rfl, hb9⟩
    have hz9 := hb9.size
    have hB9 := hB8.below hb9 hB8.lt
    have hS_9 := hS_8.below hb9 hS_8.lt
    have hP9 := hP8.below hb9 hP8.lt
    have hQ9 := hQ8.below hb9 hQ8.lt
    have XS9 := XS8.below hb9
    have XG9 := XG8.below hb9
    have RS9 := RS8.below hb9 (by omega)
    have RG9 := RG8.below hb9 (by omega)
    have RT9 := RT8.below hb9 (by omega)
    have GS9 := GS8.below hb9
    have GG9 := GG8.below hb9
    have GT9 := GT8.below hb9
    have hw9 := hw8.trans (hb9.mono hw8.size)
    clear hB8 hS_8 hP8 hQ8 XS8 XG8 RS8 RG8 RT8 GS8 GG8 GT8
    clear chQ0 chQ1 chQ2 chQ3 chQ4 chQ5 chQ6 chS_0 chS_1 chS_2 chS_3 chS_4 chS_5 chS_6
    have chB0 := hB9.cell (i := 0) rfl
    have chB1 := hB9.cell (i := 1) rfl
    have chB2 := hB9.cell (i := 2) rfl
    have chB3 := hB9.cell (i := 3) rfl
    have chP0 := hP9.cell (i := 0) rfl
    have chP1 := hP9.cell (i := 1) rfl
    have chP2 := hP9.cell (i := 2) rfl
    have chP3 := hP9.cell (i := 3) rfl
    go_wp2_with (fail)
    have z0 : v9.drew.cell? ⟨w.heap.size, 0, none⟩ = some (.string nm) := chB0
    have z1 : v9.drew.cell? ⟨w.heap.size, 1, none⟩ = some (.int .i64 bs) := chB1
    have z2 : v9.drew.cell? ⟨w.heap.size, 2, none⟩ = some (.slice A H.length c) := chB2
    have z3 : v9.drew.cell? ⟨w.heap.size, 3, none⟩ = some (.slice B G.length d) := chB3
    have z4 : v9.drew.cell? ⟨v5.heap.size, 0, none⟩ = some (.string nm) := chP0
    have z5 : v9.drew.cell? ⟨v5.heap.size, 1, none⟩ = some (.int .i64 bs) := chP1
    have z6 : v9.drew.cell? ⟨v5.heap.size, 2, none⟩ = some (.slice (some ⟨g5, 0, none⟩) H.length c5) := chP2
    have z7 : v9.drew.cell? ⟨v5.heap.size, 3, none⟩ = some (.slice (some ⟨h5, 0, none⟩) G.length d5) := chP3
    have XSd : Rw v9.drew v4.heap.size v5.heap.size 9 1 (.slice (some ⟨g5, 0, none⟩) H.length c5) H.length (H.map Value.string) := XS9
    have XGd : Rw v9.drew v4.heap.size v5.heap.size 68 2 (.slice (some ⟨h5, 0, none⟩) G.length d5) G.length (gflat G) := XG9
    go_region_held3 (fun W => W.cell? ⟨w.heap.size, 0, none⟩ = some (.string nm) ∧ W.cell? ⟨w.heap.size, 1, none⟩ = some (.int .i64 bs) ∧ W.cell? ⟨w.heap.size, 2, none⟩ = some (.slice A H.length c) ∧ W.cell? ⟨w.heap.size, 3, none⟩ = some (.slice B G.length d) ∧ W.cell? ⟨v5.heap.size, 0, none⟩ = some (.string nm) ∧ W.cell? ⟨v5.heap.size, 1, none⟩ = some (.int .i64 bs) ∧ W.cell? ⟨v5.heap.size, 2, none⟩ = some (.slice (some ⟨g5, 0, none⟩) H.length c5) ∧ W.cell? ⟨v5.heap.size, 3, none⟩ = some (.slice (some ⟨h5, 0, none⟩) G.length d5))
      (first
        | with_reducible exact ⟨z0, z1, z2, z3, z4, z5, z6, z7⟩
        | with_reducible exact ⟨kept_cell hb10 z0, kept_cell hb10 z1, kept_cell hb10 z2, kept_cell hb10 z3, kept_cell hb10 z4, kept_cell hb10 z5, kept_cell hb10 z6, kept_cell hb10 z7⟩
        | with_reducible exact ⟨kept_cell hb11 (kept_cell hb10 z0), kept_cell hb11 (kept_cell hb10 z1), kept_cell hb11 (kept_cell hb10 z2), kept_cell hb11 (kept_cell hb10 z3), kept_cell hb11 (kept_cell hb10 z4), kept_cell hb11 (kept_cell hb10 z5), kept_cell hb11 (kept_cell hb10 z6), kept_cell hb11 (kept_cell hb10 z7)⟩)
      (first
        | (go_at_call 12; (with_reducible refine (toTopic_any ⟨nm, bs, H, G⟩ A c B d _ hS' (HA.out _ (below_drew hw9)) (HB.out _ (below_drew hw9))).mono ?_); rintro e v10 ⟨g10, c10, h10, d10, rfl, hF10, hG10, _, hb10⟩)
        | (go_at_call 15; (with_reducible refine (eqTopic_same nm bs _ _ _ _ H G _ _ _ _ v10 (XSd.below hb10).strs hF10.strs (XGd.below hb10).grs hG10.grs).mono ?_); rintro e v11 ⟨rfl, hb11⟩))
    have hbz : Below v9.heap.size v9 v11 := (below_drew (Below.refl _ v9)).trans ((hb10.trans (hb11.mono hb10.size)).mono (Nat.le_refl _))
    clear chB0 chB1 chB2 chB3 chP0 chP1 chP2 chP3
    clear z0 z1 z2 z3 z4 z5 z6 z7 XSd XGd hF10 hG10
    have hz11 := hbz.size
    have hB11 := hB9.below hbz hB9.lt
    have hS_11 := hS_9.below hbz hS_9.lt
    have hP11 := hP9.below hbz hP9.lt
    have hQ11 := hQ9.below hbz hQ9.lt
    have XS11 := XS9.below hbz
    have XG11 := XG9.below hbz
    have RS11 := RS9.below hbz (by omega)
    have RG11 := RG9.below hbz (by omega)
    have RT11 := RT9.below hbz (by omega)
    have GS11 := GS9.below hbz
    have GG11 := GG9.below hbz
    have GT11 := GT9.below hbz
    have hw11 := hw9.trans (hbz.mono hw9.size)
    clear hB9 hS_9 hP9 hQ9 XS9 XG9 RS9 RG9 RT9 GS9 GG9 GT9
    have chP0 := hP11.cell (i := 0) rfl
    have chP1 := hP11.cell (i := 1) rfl
    have chP2 := hP11.cell (i := 2) rfl
    have chP3 := hP11.cell (i := 3) rfl
    have MX := markTopic_sl nm bs _ H c5 _ G d5 _ _ 1 _ XS11.sl XG11.sl (by omega) (by omega)
    rw [Hm1.out] at MX
    clear XS11 XG11
    go_wp2_with (fail)
    refine MX.mono ?_
    rintro e v12 ⟨rfl, _, _, _, hc12⟩
    clear MX
    have hz12 := hc12.size
    have hB12 := hB11.offC hc12 (by omega)
    have hS_12 := hS_11.offC hc12 (by omega)
    have hP12 := hP11.offC hc12 (by omega)
    have hQ12 := hQ11.offC hc12 (by omega)
    have RS12 := RS11.offC hc12 (by omega) (by omega)
    have RG12 := RG11.offC hc12 (by omega) (by omega)
    have RT12 := RT11.offC hc12 (by omega) (by omega)
    have GS12 := GS11.offC hc12 (by omega)
    have GG12 := GG11.offC hc12 (by omega)
    have GT12 := GT11.offC hc12 (by omega)
    have hw12 := below_offC hw11 hc12 (by omega) (Nat.le_refl _)
    clear hB11 hS_11 hP11 hQ11 RS11 RG11 RT11 GS11 GG11 GT11
    clear chP0 chP1 chP2 chP3
    have hlast : ¬ ((m1 : Int) < 0) := by omega
    have chQ0 := hQ12.cell (i := 0) rfl
    have chQ1 := hQ12.cell (i := 1) rfl
    have chQ2 := hQ12.cell (i := 2) rfl
    have chQ3 := hQ12.cell (i := 3) rfl
    have chQ4 := hQ12.cell (i := 4) rfl
    have chQ5 := hQ12.cell (i := 5) rfl
    have chQ6 := hQ12.cell (i := 6) rfl
    have chS_0 := hS_12.cell (i := 0) rfl
    have chS_1 := hS_12.cell (i := 1) rfl
    have chS_2 := hS_12.cell (i := 2) rfl
    have chS_3 := hS_12.cell (i := 3) rfl
    have chS_4 := hS_12.cell (i := 4) rfl
    have chS_5 := hS_12.cell (i := 5) rfl
    have chS_6 := hS_12.cell (i := 6) rfl
    go_wp2_with (fail)
    refine (eqTopicOut_same onm obs _ _ _ _ _ _ OH OG N n co _ _ _ _ _ _ _ (GS12.strs hOH) (RS12.mono (by omega)) (GG12.grs hOG) (RG12.mono (by omega)) (GT12.strs hN) (RT12.mono (by omega))).mono ?_
    rintro e v13 ⟨rfl, hb13⟩
    have hz13 := hb13.size
    have hB13 := hB12.below hb13 hB12.lt
    have hS_13 := hS_12.below hb13 hS_12.lt
    have hP13 := hP12.below hb13 hP12.lt
    have hQ13 := hQ12.below hb13 hQ12.lt
    have RS13 := RS12.below hb13 (by omega)
    have RG13 := RG12.below hb13 (by omega)
    have RT13 := RT12.below hb13 (by omega)
    have GS13 := GS12.below hb13
    have GG13 := GG12.below hb13
    have GT13 := GT12.below hb13
    have hw13 := hw12.trans (hb13.mono hw12.size)
    clear hB12 hS_12 hP12 hQ12 RS12 RG12 RT12 GS12 GG12 GT12
    clear chQ0 chQ1 chQ2 chQ3 chQ4 chQ5 chQ6 chS_0 chS_1 chS_2 chS_3 chS_4 chS_5 chS_6
    clear hlast
    have chQ0 := hQ13.cell (i := 0) rfl
    have chQ1 := hQ13.cell (i := 1) rfl
    have chQ2 := hQ13.cell (i := 2) rfl
    have chQ3 := hQ13.cell (i := 3) rfl
    have chQ4 := hQ13.cell (i := 4) rfl
    have chQ5 := hQ13.cell (i := 5) rfl
    have chQ6 := hQ13.cell (i := 6) rfl
    have MG := markTopicOut_sl onm obs _ OH a7 _ OG b7 _ N x7 n co _ _ 1 _ GS13 GG13 GT13 hap7 (by omega) (by omega) (by omega)
    rw [Hm3.out] at MG
    clear GS13 GG13 GT13
    go_wp2_with (fail)
    refine MG.mono ?_
    rintro e v14 ⟨rfl, GS14, GG14, GT14, hc14⟩
    clear MG
    have hz14 := hc14.size
    have hB14 := hB13.offC hc14 (by omega)
    have hS_14 := hS_13.offC hc14 (by omega)
    have hP14 := hP13.offC hc14 (by omega)
    have hQ14 := hQ13.offC hc14 (by omega)
    have RS14 := RS13.offC hc14 (by omega) (by omega)
    have RG14 := RG13.offC hc14 (by omega) (by omega)
    have RT14 := RT13.offC hc14 (by omega) (by omega)
    have hw14 := below_offC hw13 hc14 (by omega) (Nat.le_refl _)
    clear hB13 hS_13 hP13 hQ13 RS13 RG13 RT13
    clear chQ0 chQ1 chQ2 chQ3 chQ4 chQ5 chQ6
    have hlast : ¬ ((m3 : Int) < 0) := by omega
    have chQ0 := hQ14.cell (i := 0) rfl
    have chQ1 := hQ14.cell (i := 1) rfl
    have chQ2 := hQ14.cell (i := 2) rfl
    have chQ3 := hQ14.cell (i := 3) rfl
    have chQ4 := hQ14.cell (i := 4) rfl
    have chQ5 := hQ14.cell (i := 5) rfl
    have chQ6 := hQ14.cell (i := 6) rfl
    have HD := heldTopicOut_any onm obs _ OH.length a7 _ OG.length b7 _ N.length x7 n co 1 _ (GS14.strs (by rw [markN_len]; exact hOH)) (GG14.grs (by rw [markG_len]; exact hOG)) (GT14.strs (by rw [markN_len]; exact hN)) (by omega) (by omega)
    rw [Hm3.out] at HD
    go_wp2_with (fail)
    refine (HD).mono ?_
    rintro e v15 ⟨rfl, hb15⟩
    have hz15 := hb15.size
    have hB15 := hB14.below hb15 hB14.lt
    have hS_15 := hS_14.below hb15 hS_14.lt
    have hP15 := hP14.below hb15 hP14.lt
    have hQ15 := hQ14.below hb15 hQ14.lt
    have RS15 := RS14.below hb15 (by omega)
    have RG15 := RG14.below hb15 (by omega)
    have RT15 := RT14.below hb15 (by omega)
    have GS15 := GS14.below hb15
    have GG15 := GG14.below hb15
    have GT15 := GT14.below hb15
    have hw15 := hw14.trans (hb15.mono hw14.size)
    clear hB14 hS_14 hP14 hQ14 RS14 RG14 RT14 GS14 GG14 GT14
    clear chQ0 chQ1 chQ2 chQ3 chQ4 chQ5 chQ6
    clear HD
    have chB0 := hB15.cell (i := 0) rfl
    have chB1 := hB15.cell (i := 1) rfl
    have chB2 := hB15.cell (i := 2) rfl
    have chB3 := hB15.cell (i := 3) rfl
    go_wp2_with (fail)
    refine (toTopic_any ⟨nm, bs, H, G⟩ A c B d _ hS' (HA.out _ hw15) (HB.out _ hw15)).mono ?_
    rintro e v16 ⟨g16, c16, h16, d16, rfl, XS16, XG16, _, hb16⟩
    have hz16 := hb16.size
    have hB16 := hB15.below hb16 hB15.lt
    have hS_16 := hS_15.below hb16 hS_15.lt
    have hP16 := hP15.below hb16 hP15.lt
    have hQ16 := hQ15.below hb16 hQ15.lt
    have RS16 := RS15.below hb16 (by omega)
    have RG16 := RG15.below hb16 (by omega)
    have RT16 := RT15.below hb16 (by omega)
    have GS16 := GS15.below hb16
    have GG16 := GG15.below hb16
    have GT16 := GT15.below hb16
    have hw16 := hw15.trans (hb16.mono hw15.size)
    clear hB15 hS_15 hP15 hQ15 RS15 RG15 RT15 GS15 GG15 GT15
    clear chB0 chB1 chB2 chB3
    go_wp2_with (fail)
    refine (Im.out _ _ _ _ _ XS16.strs XG16.grs (Cap.own XS16.1) (Cap.own XG16.1)).mono ?_
    rintro e v17 ⟨A17, a17, B17, b17, T17, x17, rfl, YS17, YG17, YT17, hap17, _, _, hb17⟩
    have hz17 := hb17.size
    have hB17 := hB16.below hb17 hB16.lt
    have hS_17 := hS_16.below hb17 hS_16.lt
    have hP17 := hP16.below hb17 hP16.lt
    have hQ17 := hQ16.below hb17 hQ16.lt
    have XS17 := XS16.below hb17
    have XG17 := XG16.below hb17
    have RS17 := RS16.below hb17 (by omega)
    have RG17 := RG16.below hb17 (by omega)
    have RT17 := RT16.below hb17 (by omega)
    have GS17 := GS16.below hb17
    have GG17 := GG16.below hb17
    have GT17 := GT16.below hb17
    have hw17 := hw16.trans (hb17.mono hw16.size)
    clear hB16 hS_16 hP16 hQ16 XS16 XG16 RS16 RG16 RT16 GS16 GG16 GT16
    clear XS17 XG17
    have hV18 := Blk.fresh v17 31 [.string onm, .int .i64 obs, .slice A17 OH.length a17, .slice B17 OG.length b17, .slice T17 N.length x17, .int .i64 n, .int .i64 co]
    replace hV18 : Blk (v17.alloc (.cells #[.string onm, .int .i64 obs, .slice A17 OH.length a17, .slice B17 OG.length b17, .slice T17 N.length x17, .int .i64 n, .int .i64 co] 31)) v17.heap.size 31 [.string onm, .int .i64 obs, .slice A17 OH.length a17, .slice B17 OG.length b17, .slice T17 N.length x17, .int .i64 n, .int .i64 co] := hV18
    have hb18 : Below v17.heap.size v17 (v17.alloc (.cells #[.string onm, .int .i64 obs, .slice A17 OH.length a17, .slice B17 OG.length b17, .slice T17 N.length x17, .int .i64 n, .int .i64 co] 31)) := (Below.refl _ _).alloc (Nat.le_refl _) _
    have hs18 : (v17.alloc (.cells #[.string onm, .int .i64 obs, .slice A17 OH.length a17, .slice B17 OG.length b17, .slice T17 N.length x17, .int .i64 n, .int .i64 co] 31)).heap.size = v17.heap.size + 1 := by simp
    have qhS_0 := (hS_17.below hb18 hS_17.lt).cell (i := 0) rfl
    have qhS_1 := (hS_17.below hb18 hS_17.lt).cell (i := 1) rfl
    have qhS_2 := (hS_17.below hb18 hS_17.lt).cell (i := 2) rfl
    have qhS_3 := (hS_17.below hb18 hS_17.lt).cell (i := 3) rfl
    have qhS_4 := (hS_17.below hb18 hS_17.lt).cell (i := 4) rfl
    have qhS_5 := (hS_17.below hb18 hS_17.lt).cell (i := 5) rfl
    have qhS_6 := (hS_17.below hb18 hS_17.lt).cell (i := 6) rfl
    have qq0 := hV18.cell (i := 0) rfl
    have qq1 := hV18.cell (i := 1) rfl
    have qq2 := hV18.cell (i := 2) rfl
    have qq3 := hV18.cell (i := 3) rfl
    have qq4 := hV18.cell (i := 4) rfl
    have qq5 := hV18.cell (i := 5) rfl
    have qq6 := hV18.cell (i := 6) rfl
    go_wp2_with (fail)
    clear qhS_0 qhS_1 qhS_2 qhS_3 qhS_4 qhS_5 qhS_6 qq0 qq1 qq2 qq3 qq4 qq5 qq6
    generalize v17.alloc (.cells #[.string onm, .int .i64 obs, .slice A17 OH.length a17, .slice B17 OG.length b17, .slice T17 N.length x17, .int .i64 n, .int .i64 co] 31) = v18 at hV18 hb18 hs18 ⊢
    have hz18 := hb18.size
    have hB18 := hB17.below hb18 hB17.lt
    have hS_18 := hS_17.below hb18 hS_17.lt
    have hP18 := hP17.below hb18 hP17.lt
    have hQ18 := hQ17.below hb18 hQ17.lt
    have RS18 := RS17.below hb18 (by omega)
    have RG18 := RG17.below hb18 (by omega)
    have RT18 := RT17.below hb18 (by omega)
    have GS18 := GS17.below hb18
    have GG18 := GG17.below hb18
    have GT18 := GT17.below hb18
    have YS18 := YS17.below hb18
    have YG18 := YG17.below hb18
    have YT18 := YT17.below hb18
    have hw18 := hw17.trans (hb18.mono hw17.size)
    clear hB17 hS_17 hP17 hQ17 RS17 RG17 RT17 GS17 GG17 GT17 YS17 YG17 YT17
    have chV0 := hV18.cell (i := 0) rfl
    have chV1 := hV18.cell (i := 1) rfl
    have chV2 := hV18.cell (i := 2) rfl
    have chV3 := hV18.cell (i := 3) rfl
    have chV4 := hV18.cell (i := 4) rfl
    have chV5 := hV18.cell (i := 5) rfl
    have chV6 := hV18.cell (i := 6) rfl
    have chS_0 := hS_18.cell (i := 0) rfl
    have chS_1 := hS_18.cell (i := 1) rfl
    have chS_2 := hS_18.cell (i := 2) rfl
    have chS_3 := hS_18.cell (i := 3) rfl
    have chS_4 := hS_18.cell (i := 4) rfl
    have chS_5 := hS_18.cell (i := 5) rfl
    have chS_6 := hS_18.cell (i := 6) rfl
    go_wp2_with (fail)
    refine (eqTopicOut_same onm obs _ _ _ _ _ _ OH OG N n co _ _ _ _ _ _ _ (YS18.strs hOH) (RS18.mono (by omega)) (YG18.grs hOG) (RG18.mono (by omega)) (YT18.strs hN) (RT18.mono (by omega))).mono ?_
    rintro e v19 ⟨rfl, hb19⟩
    have hz19 := hb19.size
    have hB19 := hB18.below hb19 hB18.lt
    have hS_19 := hS_18.below hb19 hS_18.lt
    have hP19 := hP18.below hb19 hP18.lt
    have hQ19 := hQ18.below hb19 hQ18.lt
    have hV19 := hV18.below hb19 hV18.lt
    have RS19 := RS18.below hb19 (by omega)
    have RG19 := RG18.below hb19 (by omega)
    have RT19 := RT18.below hb19 (by omega)
    have GS19 := GS18.below hb19
    have GG19 := GG18.below hb19
    have GT19 := GT18.below hb19
    have YS19 := YS18.below hb19
    have YG19 := YG18.below hb19
    have YT19 := YT18.below hb19
    have hw19 := hw18.trans (hb19.mono hw18.size)
    clear hB18 hS_18 hP18 hQ18 hV18 RS18 RG18 RT18 GS18 GG18 GT18 YS18 YG18 YT18
    clear chV0 chV1 chV2 chV3 chV4 chV5 chV6 chS_0 chS_1 chS_2 chS_3 chS_4 chS_5 chS_6
    have chQ0 := hQ19.cell (i := 0) rfl
    have chQ1 := hQ19.cell (i := 1) rfl
    have chQ2 := hQ19.cell (i := 2) rfl
    have chQ3 := hQ19.cell (i := 3) rfl
    have chQ4 := hQ19.cell (i := 4) rfl
    have chQ5 := hQ19.cell (i := 5) rfl
    have chQ6 := hQ19.cell (i := 6) rfl
    have HD := heldTopicOut_any onm obs _ OH.length a7 _ OG.length b7 _ N.length x7 n co 1 _ (GS19.strs (by rw [markN_len]; exact hOH)) (GG19.grs (by rw [markG_len]; exact hOG)) (GT19.strs (by rw [markN_len]; exact hN)) (by omega) (by omega)
    rw [Hm3.out] at HD
    go_wp2_with (fail)
    refine (HD).mono ?_
    rintro e v20 ⟨rfl, hb20⟩
    have hz20 := hb20.size
    have hB20 := hB19.below hb20 hB19.lt
    have hS_20 := hS_19.below hb20 hS_19.lt
    have hP20 := hP19.below hb20 hP19.lt
    have hQ20 := hQ19.below hb20 hQ19.lt
    have hV20 := hV19.below hb20 hV19.lt
    have RS20 := RS19.below hb20 (by omega)
    have RG20 := RG19.below hb20 (by omega)
    have RT20 := RT19.below hb20 (by omega)
    have GS20 := GS19.below hb20
    have GG20 := GG19.below hb20
    have GT20 := GT19.below hb20
    have YS20 := YS19.below hb20
    have YG20 := YG19.below hb20
    have YT20 := YT19.below hb20
    have hw20 := hw19.trans (hb20.mono hw19.size)
    clear hB19 hS_19 hP19 hQ19 hV19 RS19 RG19 RT19 GS19 GG19 GT19 YS19 YG19 YT19
    clear chQ0 chQ1 chQ2 chQ3 chQ4 chQ5 chQ6
    clear HD
    go_wp2
    go_ret
    exact ⟨rfl, hw20⟩
end Go.Proofs.Ytkimieeabmjfgaa
