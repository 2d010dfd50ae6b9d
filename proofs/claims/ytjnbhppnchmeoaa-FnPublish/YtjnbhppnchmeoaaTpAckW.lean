/- spec.TopicFetch. impl.TopicFetch; the two answer alike. The closure of runFor, the operation being ack. impl.TopicAck; the two answer alike. -/
import Derived.Test.YtjnbhppnchmeoaaTpAckXW
import Derived.Test.YtjnbhppnchmeoaaTpFetMW
import Derived.Test.YtjnbhppnchmeoaaTpRTW
import Derived.BigQuiet
import Derived.Deep.RegionLaw
import Derived.Deep.RegionHeld3
import Derived.Deep.DeepCutAuto
import Derived.Test.YtjnbhppnchmeoaaTpForKW
namespace Go.Proofs.Ytjnbhppnchmeoaa
open Go.RowKit Go.Deep
set_option linter.unusedVariables false
set_option maxRecDepth 1000000
theorem l01Min_fet (a b : Int) (w : World) : Calls Try.prog 75 #[.int .i64 a, .int .i64 b] w fun e w' => e = .returned (.int .i64 (min a b)) ∧ w' = w := by
  by_cases h : a < b
  · go_enter Try.func75, Try.ntmps75
    go_wp2
    go_ret
    exact ⟨retI (by show a = min a b; omega), rfl⟩
  · go_enter Try.func75, Try.ntmps75
    go_wp2
    go_ret
    exact ⟨retI (by show b = min a b; omega), rfl⟩
/-- What lies there once the texts are taken out. -/
structure FetAft (w v0 : World) (g : Nat) (nm : ByteArray) (bs : Int) (H : List ByteArray) (hg : List Grp) (bg : Nat) (A8 : Option Addr) (a8 b8 : Nat) (A B : Option Addr) (c d : Nat) (G : List Grp) (w7 : World) : Prop where
  P : Blk w7 g 26 [.string nm, .int .i64 bs, .slice A8 H.length a8, .slice (some ⟨bg, 0, none⟩) hg.length b8]
  K : Blk w7 w.heap.size 26 [.string nm, .int .i64 bs, .slice A H.length c, .slice B G.length d]
  O : Blk w7 (w.heap.size + 1) 30 [.string ⟨#[]⟩, .int .i64 0, .slice none 0 0, .slice none 0 0, .slice none 0 0, .int .i64 0, .int .i64 0]
  S : OwnS w7 v0.heap.size (.slice A8 H.length a8) H
  G' : OwnG w7 v0.heap.size (.slice (some ⟨bg, 0, none⟩) hg.length b8) hg
  b : Below w.heap.size w w7
theorem fet_end {w w9 : World} {lo : Nat} {nm : ByteArray} {bs ak : Int} {H N : List ByteArray} {hg : List Grp} {A8 B8 A7 : Option Addr} {a8 b8 a7 : Nat} {R : Ans} (h : R = ⟨⟨nm, bs, H, hg⟩, N, ak, 0⟩) (hlo : w.heap.size ≤ lo) (hS : OwnS w9 lo (.slice A8 H.length a8) H) (hG : OwnG w9 lo (.slice B8 hg.length b8) hg) (hT : OwnS w9 lo (.slice A7 N.length a7) N) (hap : Apart A8 A7) (hb : Below w.heap.size w w9) :
    ImO w w9 (.returned (outV nm bs (.slice A8 H.length a8) (.slice B8 hg.length b8) (.slice A7 N.length a7) ak 0)) R := by
  subst h
  exact ⟨A8, a8, B8, b8, A7, a7, rfl, Sl.of_own (own_base hS hlo) rfl, Sl.of_own (own_base hG hlo) rfl, Sl.of_own (own_base hT hlo) rfl, hap, Cap.own hS, Cap.own hG, hb⟩
/-- What lies there once l07Begin has answered. -/
def FetCut (v0 : World) (nm : ByteArray) (bs : Int) (H : List ByteArray) (hg : List Grp) (kk : Nat) (cc : Int) (y7 y8 y9 : Value) (wx : World) : Prop :=
  ∃ (g : Nat) (A8 : Option Addr) (a8 : Nat) (B8 : Option Addr) (b8 : Nat) (L : List Grp) (k code : Int), y7 = .pointer (some ⟨g, 0, none⟩) ∧ y8 = .int .i64 k ∧ y9 = .int .i64 code ∧ code = cc ∧ v0.heap.size ≤ g ∧ Blk wx g 26 [.string nm, .int .i64 bs, .slice A8 H.length a8, .slice B8 (List.length L) b8] ∧
    (code = 0 → L = hg ∧ k = (kk : Int) ∧ OwnS wx v0.heap.size (.slice A8 H.length a8) H ∧ OwnG wx v0.heap.size (.slice B8 (List.length L) b8) L) ∧ Below v0.heap.size v0 wx
theorem FetCut.late {v0 w1 : World} {nm : ByteArray} {bs : Int} {H : List ByteArray} {hg : List Grp} {kk : Nat} {cc : Int} (h : Below v0.drew.heap.size v0.drew w1) {A8 : Option Addr} {a8 : Nat} {B8 : Option Addr} {b8 : Nat} {L : List Grp} {k code : Int} (h1 : code = cc)
    (h2 : code = 0 → L = hg ∧ k = (kk : Int) ∧ OwnS w1 v0.drew.heap.size (.slice A8 H.length a8) H ∧ OwnG w1 v0.drew.heap.size (.slice B8 (List.length L) b8) L) :
    FetCut v0 nm bs H hg kk cc (.pointer (some ⟨w1.heap.size, 0, none⟩)) (.int .i64 k) (.int .i64 code) (w1.alloc (.cells #[.string nm, .int .i64 bs, .slice A8 H.length a8, .slice B8 (List.length L) b8] 26)) := by
  have hb : Below v0.heap.size v0 w1 := (below_drew (Below.refl _ v0)).trans h
  have al := below_box w1 (.cells #[.string nm, .int .i64 bs, .slice A8 H.length a8, .slice B8 (List.length L) b8] 26)
  refine ⟨w1.heap.size, A8, a8, B8, b8, L, k, code, rfl, rfl, rfl, h1, hb.size, Blk.fresh w1 26 [_, _, _, _], fun e => ?_, hb.trans (al.mono hb.size)⟩
  obtain ⟨e1, e2, s, q⟩ := h2 e
  exact ⟨e1, e2, row_below s al (Nat.le_refl _), row_below q al (Nat.le_refl _)⟩
theorem FetCut.of {v0 w1 : World} {nm : ByteArray} {bs : Int} {H : List ByteArray} {hg : List Grp} {kk : Nat} {cc : Int} (h : Below (v0.alloc (.cells #[.string ⟨#[]⟩, .int .i64 0, .slice none 0 0, .slice none 0 0] 26)).drew.heap.size (v0.alloc (.cells #[.string ⟨#[]⟩, .int .i64 0, .slice none 0 0, .slice none 0 0] 26)).drew w1) {A8 : Option Addr} {a8 : Nat} {B8 : Option Addr} {b8 : Nat} {L : List Grp} {k code : Int} (h1 : code = cc)
    (h2 : code = 0 → L = hg ∧ k = (kk : Int) ∧ OwnS w1 (v0.alloc (.cells #[.string ⟨#[]⟩, .int .i64 0, .slice none 0 0, .slice none 0 0] 26)).drew.heap.size (.slice A8 H.length a8) H ∧ OwnG w1 (v0.alloc (.cells #[.string ⟨#[]⟩, .int .i64 0, .slice none 0 0, .slice none 0 0] 26)).drew.heap.size (.slice B8 (List.length L) b8) L) :
    FetCut v0 nm bs H hg kk cc (.pointer (some ⟨v0.heap.size, 0, none⟩)) (.int .i64 k) (.int .i64 code) ((((w1.setCell ⟨v0.heap.size, 0, none⟩ (.string nm)).setCell ⟨v0.heap.size, 1, none⟩ (.int .i64 bs)).setCell ⟨v0.heap.size, 2, none⟩ (.slice A8 H.length a8)).setCell ⟨v0.heap.size, 3, none⟩ (.slice B8 (List.length L) b8)) := by
  have hZ : Blk (v0.alloc (.cells #[.string ⟨#[]⟩, .int .i64 0, .slice none 0 0, .slice none 0 0] 26)).drew v0.heap.size 26 [.string ⟨#[]⟩, .int .i64 0, .slice none 0 0, .slice none 0 0] := Blk.fresh v0 26 [.string ⟨#[]⟩, .int .i64 0, .slice none 0 0, .slice none 0 0]
  have hZ1 := hZ.below h hZ.lt
  have hs0 : v0.heap.size ≤ (v0.alloc (.cells #[.string ⟨#[]⟩, .int .i64 0, .slice none 0 0, .slice none 0 0] 26)).drew.heap.size := by simp
  have hs1 : v0.heap.size < (v0.alloc (.cells #[.string ⟨#[]⟩, .int .i64 0, .slice none 0 0, .slice none 0 0] 26)).drew.heap.size := by simp
  have hb : Below v0.heap.size v0 w1 := (below_drew ((Below.refl v0.heap.size v0).alloc (Nat.le_refl _) (.cells #[.string ⟨#[]⟩, .int .i64 0, .slice none 0 0, .slice none 0 0] 26))).trans (h.mono hs0)
  have Z9 := (((hZ1.put 0 (.string nm)).put 1 (.int .i64 bs)).put 2 (.slice A8 H.length a8)).put 3 (.slice B8 (List.length L) b8)
  simp only [List.set_cons_succ, List.set_cons_zero] at Z9
  refine ⟨v0.heap.size, A8, a8, B8, b8, L, k, code, rfl, rfl, rfl, h1, Nat.le_refl _, Z9, fun e => ?_, (((hb.setCell (p := ⟨v0.heap.size, 0, none⟩) (Nat.le_refl _) _).setCell (p := ⟨v0.heap.size, 1, none⟩) (Nat.le_refl _) _).setCell (p := ⟨v0.heap.size, 2, none⟩) (Nat.le_refl _) _).setCell (p := ⟨v0.heap.size, 3, none⟩) (Nat.le_refl _) _⟩
  obtain ⟨e1, e2, s, q⟩ := h2 e
  exact ⟨e1, e2, own_base (row_far (row_far (row_far (row_far s (p := ⟨v0.heap.size, 0, none⟩) hs1 _) (p := ⟨v0.heap.size, 1, none⟩) hs1 _) (p := ⟨v0.heap.size, 2, none⟩) hs1 _) (p := ⟨v0.heap.size, 3, none⟩) hs1 _) hs0, own_base (row_far (row_far (row_far (row_far q (p := ⟨v0.heap.size, 0, none⟩) hs1 _) (p := ⟨v0.heap.size, 1, none⟩) hs1 _) (p := ⟨v0.heap.size, 2, none⟩) hs1 _) (p := ⟨v0.heap.size, 3, none⟩) hs1 _) hs0⟩
set_option maxHeartbeats 8000000 in
theorem specTopicFetch_im (t : Tpc) (gn : ByteArray) (n : Int) (A : Option Addr) (c : Nat) (B : Option Addr) (d : Nat) (w : World) (hf : t.fits) (hs : gn.size ≤ maxLen) (hA : Strs w w.heap.size A t.held) (hB : Grs w w.heap.size B t.groups) (hc : Cap A t.held.length c) (hd : Cap B t.groups.length d) :
    Calls Try.prog 25 #[topV t.name t.base (.slice A t.held.length c) (.slice B t.groups.length d), .string gn, .int .i64 n] w fun e w' => ImO w w' e (fetT t gn n) := by
  obtain ⟨okv, HOK⟩ : ∃ x, Hid (inB n 0 20 = x) := ⟨_, Lib.hid rfl⟩
  have ISc := Lib.hid (fun W => is3 HOK.out W)
  have BG := Lib.hid (fun W (h : Below w.heap.size w W) => l07Begin_any t gn okv A c B d W hf hs (hA.on h) (hB.on h) hc hd)
  have hkl := hasG_lt t gn
  have HT := Lib.hid (beg_top (t := t) (g := gn) (ok := okv))
  have HO2 := Lib.hid (beg_okv (t := t) (g := gn) (ok := okv))
  have HIN := Lib.hid (hasG_in t gn)
  have HI := Lib.hid (fetT_ill (t := t) (gn := gn) (n := n))
  have HZ0 := Lib.hid (fetT_ok (t := t) (gn := gn) (n := n))
  rw [HOK.out] at HI HZ0
  obtain ⟨cc, HCC⟩ : ∃ x, Hid (begC t gn okv = x) := ⟨_, Lib.hid rfl⟩
  obtain ⟨hg, HHG⟩ : ∃ x, Hid (hasG t gn = x) := ⟨_, Lib.hid rfl⟩
  obtain ⟨kk, HKK⟩ : ∃ x, Hid (posG t.groups gn = x) := ⟨_, Lib.hid rfl⟩
  obtain ⟨R, HRR⟩ : ∃ x, Hid (fetT t gn n = x) := ⟨_, Lib.hid rfl⟩
  have HE0 := Lib.hid (fetchA_eq t gn n)
  rw [HHG.out, HKK.out] at hkl HE0
  rw [HCC.out, HHG.out, HKK.out] at BG
  rw [HRR.out, HCC.out] at HI HZ0
  rw [HRR.out]
  rw [HCC.out] at HT HO2
  rw [HHG.out, HKK.out] at HZ0 HIN
  obtain ⟨nm, bs, H, G⟩ := t
  simp only at HKK hA hB hc hd BG HT HZ0 HIN HE0 ⊢
  have K := (Blk.fresh w 26 [.string nm, .int .i64 bs, .slice A H.length c, .slice B G.length d]).alloc (.cells #[.string ⟨#[]⟩, .int .i64 0, .slice none 0 0, .slice none 0 0, .slice none 0 0, .int .i64 0, .int .i64 0] 30)
  have O := Blk.fresh (w.alloc (.cells #[.string nm, .int .i64 bs, .slice A H.length c, .slice B G.length d] 26)) 30 [.string ⟨#[]⟩, .int .i64 0, .slice none 0 0, .slice none 0 0, .slice none 0 0, .int .i64 0, .int .i64 0]
  have hb : Below w.heap.size w ((w.alloc (.cells #[.string nm, .int .i64 bs, .slice A H.length c, .slice B G.length d] 26)).alloc (.cells #[.string ⟨#[]⟩, .int .i64 0, .slice none 0 0, .slice none 0 0, .slice none 0 0, .int .i64 0, .int .i64 0] 30)) := ((Below.refl _ _).alloc (Nat.le_refl _) _).alloc (by simp) _
  simp only [World.size_alloc] at K O
  replace K : Blk ((w.alloc (.cells #[.string nm, .int .i64 bs, .slice A H.length c, .slice B G.length d] 26)).alloc (.cells #[.string ⟨#[]⟩, .int .i64 0, .slice none 0 0, .slice none 0 0, .slice none 0 0, .int .i64 0, .int .i64 0] 30)) w.heap.size 26 [.string nm, .int .i64 bs, .slice A H.length c, .slice B G.length d] := K
  replace O : Blk ((w.alloc (.cells #[.string nm, .int .i64 bs, .slice A H.length c, .slice B G.length d] 26)).alloc (.cells #[.string ⟨#[]⟩, .int .i64 0, .slice none 0 0, .slice none 0 0, .slice none 0 0, .int .i64 0, .int .i64 0] 30)) (w.heap.size + 1) 30 [.string ⟨#[]⟩, .int .i64 0, .slice none 0 0, .slice none 0 0, .slice none 0 0, .int .i64 0, .int .i64 0] := O
  have hz1 := hb.size
  by_cases hz : cc = 0
  rotate_left
  · have HR : Hid (R = ill cc) := Lib.hid (HI.out hz)
    go_enter Try.func25, Try.ntmps25
    go_wp2_with (fail)
    generalize (w.alloc (.cells #[.string nm, .int .i64 bs, .slice A H.length c, .slice B G.length d] 26)).alloc (.cells #[.string ⟨#[]⟩, .int .i64 0, .slice none 0 0, .slice none 0 0, .slice none 0 0, .int .i64 0, .int .i64 0] 30) = v0 at K O hb ⊢
    have hov := O.lt
    have ka0 : v0.drew.cell? ⟨w.heap.size, 0, none⟩ = _ := K.drew.cell (i := 0) rfl
    have ka1 : v0.drew.cell? ⟨w.heap.size, 1, none⟩ = _ := K.drew.cell (i := 1) rfl
    have ka2 : v0.drew.cell? ⟨w.heap.size, 2, none⟩ = _ := K.drew.cell (i := 2) rfl
    have ka3 : v0.drew.cell? ⟨w.heap.size, 3, none⟩ = _ := K.drew.cell (i := 3) rfl
    have kb0 : (v0.alloc (.cells #[.string ⟨#[]⟩, .int .i64 0, .slice none 0 0, .slice none 0 0] 26)).drew.cell? ⟨w.heap.size, 0, none⟩ = _ := (K.alloc (.cells #[.string ⟨#[]⟩, .int .i64 0, .slice none 0 0, .slice none 0 0] 26)).drew.cell (i := 0) rfl
    have kb1 : (v0.alloc (.cells #[.string ⟨#[]⟩, .int .i64 0, .slice none 0 0, .slice none 0 0] 26)).drew.cell? ⟨w.heap.size, 1, none⟩ = _ := (K.alloc (.cells #[.string ⟨#[]⟩, .int .i64 0, .slice none 0 0, .slice none 0 0] 26)).drew.cell (i := 1) rfl
    have kb2 : (v0.alloc (.cells #[.string ⟨#[]⟩, .int .i64 0, .slice none 0 0, .slice none 0 0] 26)).drew.cell? ⟨w.heap.size, 2, none⟩ = _ := (K.alloc (.cells #[.string ⟨#[]⟩, .int .i64 0, .slice none 0 0, .slice none 0 0] 26)).drew.cell (i := 2) rfl
    have kb3 : (v0.alloc (.cells #[.string ⟨#[]⟩, .int .i64 0, .slice none 0 0, .slice none 0 0] 26)).drew.cell? ⟨w.heap.size, 3, none⟩ = _ := (K.alloc (.cells #[.string ⟨#[]⟩, .int .i64 0, .slice none 0 0, .slice none 0 0] 26)).drew.cell (i := 3) rfl
    have BA := Lib.hid (BG.out v0.drew (below_drew hb))
    have BB := Lib.hid (BG.out (v0.alloc (.cells #[.string ⟨#[]⟩, .int .i64 0, .slice none 0 0, .slice none 0 0] 26)).drew (below_drew (hb.alloc hb.size (.cells #[.string ⟨#[]⟩, .int .i64 0, .slice none 0 0, .slice none 0 0] 26))))
    have hZ : Blk (v0.alloc (.cells #[.string ⟨#[]⟩, .int .i64 0, .slice none 0 0, .slice none 0 0] 26)).drew v0.heap.size 26 [.string ⟨#[]⟩, .int .i64 0, .slice none 0 0, .slice none 0 0] := Blk.fresh v0 26 [.string ⟨#[]⟩, .int .i64 0, .slice none 0 0, .slice none 0 0]
    have ZF := Lib.hid (show ∀ w1, Below (v0.alloc (.cells #[.string ⟨#[]⟩, .int .i64 0, .slice none 0 0, .slice none 0 0] 26)).drew.heap.size (v0.alloc (.cells #[.string ⟨#[]⟩, .int .i64 0, .slice none 0 0, .slice none 0 0] 26)).drew w1 → Blk w1 v0.heap.size 26 [.string ⟨#[]⟩, .int .i64 0, .slice none 0 0, .slice none 0 0] from fun w1 h => hZ.below h hZ.lt)
    have LT := Lib.hid (fun w1 h A8 a8 B8 b8 L k code h1 h2 => FetCut.late (v0 := v0) (w1 := w1) (nm := nm) (bs := bs) (H := H) (hg := hg) (kk := kk) (cc := cc) h (A8 := A8) (a8 := a8) (B8 := B8) (b8 := b8) (L := L) (k := k) (code := code) h1 h2)
    have OT := Lib.hid (fun w1 h A8 a8 B8 b8 L k code h1 h2 => FetCut.of (v0 := v0) (w1 := w1) (nm := nm) (bs := bs) (H := H) (hg := hg) (kk := kk) (cc := cc) h (A8 := A8) (a8 := a8) (B8 := B8) (b8 := b8) (L := L) (k := k) (code := code) h1 h2)
    clear hZ BG
    go_cut [7, 8, 9] (fun y7 y8 y9 wx => FetCut v0 nm bs H hg kk cc y7 y8 y9 wx)
    case first =>
      go_region_law
        (first
          | (go_simp; go_at_call 69; (with_reducible refine (ISc.out _).mono ?_); rintro e w9 ⟨rfl, rfl⟩)
          | (go_simp; go_at_call 74; (with_reducible refine BA.out.mono ?_); rintro e w1 ⟨A8, a8, B8, b8, L, k, code, rfl, hcd, hok, hb1⟩; have hfin := Lib.hid (LT.out w1 hb1 A8 a8 B8 b8 L k code hcd hok); clear hok)
          | (go_simp; go_at_call 74; (with_reducible refine BB.out.mono ?_); rintro e w1 ⟨A8, a8, B8, b8, L, k, code, rfl, hcd, hok, hb1⟩; have hfin := Lib.hid (OT.out w1 hb1 A8 a8 B8 b8 L k code hcd hok); have hZ1 := ZF.out w1 hb1; have z0 := hZ1.cell (i := 0) rfl; have z1 := hZ1.cell (i := 1) rfl; have z2 := hZ1.cell (i := 2) rfl; have z3 := hZ1.cell (i := 3) rfl; have zf0 := hZ1.froz 0; have zf1 := hZ1.froz 1; have zf2 := hZ1.froz 2; have zf3 := hZ1.froz 3; clear hok hZ1))
      all_goals
        clear ka0 ka1 ka2 ka3 kb0 kb1 kb2 kb3 BA BB ZF LT OT ISc
        go_wp2_with (fail)
        go_meet
        case rel => (first | (have q := hfin.out; rw [hcd] at q; exact q) | (obtain rfl : code = 0 := hcd.trans hz; exact hfin.out))
    case rest =>
    obtain ⟨g, A8, a8, B8, b8, L, k, code, rfl, rfl, rfl, hcd, hgv, P, hok, hb1⟩ := hcut
    rename_i w1
    clear ka0 ka1 ka2 ka3 kb0 kb1 kb2 kb3 BA BB ZF LT OT
    replace K := K.below hb1 K.lt
    replace O := O.below hb1 O.lt
    replace hb := hb.trans (hb1.mono hb.size)
    clear hok
    go_wp2_with (fail)
    refine (l07Ill_any cc _).mono ?_
    rintro e w3 ⟨rfl, hb3⟩
    replace K := K.below hb3 K.lt
    replace O := O.below hb3 O.lt
    replace hb := hb.trans (hb3.mono hb.size)
    have qc0 := O.cell (i := 0) rfl
    have qf0 := O.froz 0
    have qc1 := O.cell (i := 1) rfl
    have qf1 := O.froz 1
    have qc2 := O.cell (i := 2) rfl
    have qf2 := O.froz 2
    have qc3 := O.cell (i := 3) rfl
    have qf3 := O.froz 3
    have qc4 := O.cell (i := 4) rfl
    have qf4 := O.froz 4
    have qc5 := O.cell (i := 5) rfl
    have qf5 := O.froz 5
    have qc6 := O.cell (i := 6) rfl
    have qf6 := O.froz 6
    go_wp2
    clear qc0 qf0 qc1 qf1 qc2 qf2 qc3 qf3 qc4 qf4 qc5 qf5 qc6 qf6
    have O9 := (((((((O.put 0 (.string ⟨#[]⟩)).put 1 (.int .i64 0)).put 2 (.slice none 0 0)).put 3 (.slice none 0 0)).put 4 (.slice none 0 0)).put 5 (.int .i64 0)).put 6 (.int .i64 cc))
    have hb9 := (((((((hb.setCell (p := ⟨w.heap.size + 1, 0, none⟩) (by simp <;> omega) (.string ⟨#[]⟩)).setCell (p := ⟨w.heap.size + 1, 1, none⟩) (by simp <;> omega) (.int .i64 0)).setCell (p := ⟨w.heap.size + 1, 2, none⟩) (by simp <;> omega) (.slice none 0 0)).setCell (p := ⟨w.heap.size + 1, 3, none⟩) (by simp <;> omega) (.slice none 0 0)).setCell (p := ⟨w.heap.size + 1, 4, none⟩) (by simp <;> omega) (.slice none 0 0)).setCell (p := ⟨w.heap.size + 1, 5, none⟩) (by simp <;> omega) (.int .i64 0)).setCell (p := ⟨w.heap.size + 1, 6, none⟩) (by simp <;> omega) (.int .i64 cc))
    simp only [List.set_cons_succ, List.set_cons_zero] at O9
    generalize ((((((w3.setCell ⟨w.heap.size + 1, 0, none⟩ (.string ⟨#[]⟩)).setCell ⟨w.heap.size + 1, 1, none⟩ (.int .i64 0)).setCell ⟨w.heap.size + 1, 2, none⟩ (.slice none 0 0)).setCell ⟨w.heap.size + 1, 3, none⟩ (.slice none 0 0)).setCell ⟨w.heap.size + 1, 4, none⟩ (.slice none 0 0)).setCell ⟨w.heap.size + 1, 5, none⟩ (.int .i64 0)).setCell ⟨w.heap.size + 1, 6, none⟩ (.int .i64 cc) = w9 at O9 hb9  ⊢
    have oc0 := O9.cell (i := 0) rfl
    have oc1 := O9.cell (i := 1) rfl
    have oc2 := O9.cell (i := 2) rfl
    have oc3 := O9.cell (i := 3) rfl
    have oc4 := O9.cell (i := 4) rfl
    have oc5 := O9.cell (i := 5) rfl
    have oc6 := O9.cell (i := 6) rfl
    exact bodyPost_ret (v := .agg #[.string ⟨#[]⟩, .int .i64 0, .slice none 0 0, .slice none 0 0, .slice none 0 0, .int .i64 0, .int .i64 cc]) (by simp [results, Try.results25, go_sem, oc0, oc1, oc2, oc3, oc4, oc5, oc6]) rfl (by rw [HR.out]; exact ImO.ill hb9)
  have hO := HT.out hz
  have hnn := inB_true (HOK.out.trans (HO2.out hz))
  have hbs := inB_true hO.2.1
  have hl : H.length ≤ 20 := hO.2.2.1
  have hin := HIN.out hO hkl
  have HR := Lib.hid (HZ0.out hz)
  clear hO HT HI HCC HZ0 HO2 HIN
  obtain ⟨ak, HAK⟩ : ∃ x, Hid (hg[kk].acked = x) := ⟨_, Lib.hid rfl⟩
  rw [HAK.out] at hin
  obtain ⟨m, rfl⟩ : ∃ m : Nat, ak = bs + m := ⟨(ak - bs).toNat, by omega⟩
  have hkn : (kk : Int) < (hg.length : Int) := by omega
  have hsub : IntKind.i64.wrap (bs + (m : Int) - bs) = (m : Int) := by rw [IntWalk.i64_in _ (by omega)]; omega
  have hadd : IntKind.i64.wrap ((m : Int) + n) = (m : Int) + n := by rw [IntWalk.i64_in _ (by omega)]
  have hml : m ≤ H.length := by omega
  have HRE := Lib.hid (HE0.out m hkl HAK.out)
  obtain ⟨N, HN⟩ : ∃ x, Hid ((H.drop m).take n.toNat = x) := ⟨_, Lib.hid rfl⟩
  obtain ⟨q, HQ⟩ : ∃ x, Hid (N.length = x) := ⟨_, Lib.hid rfl⟩
  have hqe : (m : Int) + (q : Int) = min (H.length : Int) ((m : Int) + n) := by
    have h1 := HQ.out
    rw [← HN.out, List.length_take, List.length_drop] at h1
    omega
  have hq20 : q ≤ 20 := by have h1 := HQ.out; rw [← HN.out, List.length_take, List.length_drop] at h1; omega
  have hmq : m + q ≤ H.length := by omega
  have hcl := hc.le
  have LM := Lib.hid (fun W => l01Min_fet (H.length : Int) ((m : Int) + n) W)
  obtain ⟨e9, HE9⟩ : ∃ x, Hid (m + q = x) := ⟨_, Lib.hid rfl⟩
  have he9 : e9 = m + q := HE9.out.symm
  rw [← hqe, show (m : Int) + (q : Int) = (e9 : Int) by omega] at LM
  have hm0 : (0 : Int) ≤ (m : Int) := by omega
  have h90 : (0 : Int) ≤ (e9 : Int) := by omega
  have h91 : (e9 : Int) ≤ (c : Int) := by omega
  have h92 : (m : Int) ≤ (e9 : Int) := by omega
  have h93 : m ≤ e9 := by omega
  have h94 : e9 ≤ c := by omega
  rw [HN.out] at HRE
  have HRF := Lib.hid (HR.out.trans HRE.out)
  clear HR HRE HE0 hqe he9
  have H95 : Hid (e9 - m = N.length) := Lib.hid (by rw [HQ.out]; have := HE9.out; omega)
  by_cases hcm : c = m
  · subst hcm
    have H95 : Hid (0 = N.length) := Lib.hid (by have := H95.out; omega)
    go_enter Try.func25, Try.ntmps25
    go_wp2_with (fail)
    generalize (w.alloc (.cells #[.string nm, .int .i64 bs, .slice A H.length c, .slice B G.length d] 26)).alloc (.cells #[.string ⟨#[]⟩, .int .i64 0, .slice none 0 0, .slice none 0 0, .slice none 0 0, .int .i64 0, .int .i64 0] 30) = v0 at K O hb ⊢
    have hov := O.lt
    have ka0 : v0.drew.cell? ⟨w.heap.size, 0, none⟩ = _ := K.drew.cell (i := 0) rfl
    have ka1 : v0.drew.cell? ⟨w.heap.size, 1, none⟩ = _ := K.drew.cell (i := 1) rfl
    have ka2 : v0.drew.cell? ⟨w.heap.size, 2, none⟩ = _ := K.drew.cell (i := 2) rfl
    have ka3 : v0.drew.cell? ⟨w.heap.size, 3, none⟩ = _ := K.drew.cell (i := 3) rfl
    have kb0 : (v0.alloc (.cells #[.string ⟨#[]⟩, .int .i64 0, .slice none 0 0, .slice none 0 0] 26)).drew.cell? ⟨w.heap.size, 0, none⟩ = _ := (K.alloc (.cells #[.string ⟨#[]⟩, .int .i64 0, .slice none 0 0, .slice none 0 0] 26)).drew.cell (i := 0) rfl
    have kb1 : (v0.alloc (.cells #[.string ⟨#[]⟩, .int .i64 0, .slice none 0 0, .slice none 0 0] 26)).drew.cell? ⟨w.heap.size, 1, none⟩ = _ := (K.alloc (.cells #[.string ⟨#[]⟩, .int .i64 0, .slice none 0 0, .slice none 0 0] 26)).drew.cell (i := 1) rfl
    have kb2 : (v0.alloc (.cells #[.string ⟨#[]⟩, .int .i64 0, .slice none 0 0, .slice none 0 0] 26)).drew.cell? ⟨w.heap.size, 2, none⟩ = _ := (K.alloc (.cells #[.string ⟨#[]⟩, .int .i64 0, .slice none 0 0, .slice none 0 0] 26)).drew.cell (i := 2) rfl
    have kb3 : (v0.alloc (.cells #[.string ⟨#[]⟩, .int .i64 0, .slice none 0 0, .slice none 0 0] 26)).drew.cell? ⟨w.heap.size, 3, none⟩ = _ := (K.alloc (.cells #[.string ⟨#[]⟩, .int .i64 0, .slice none 0 0, .slice none 0 0] 26)).drew.cell (i := 3) rfl
    have BA := Lib.hid (BG.out v0.drew (below_drew hb))
    have BB := Lib.hid (BG.out (v0.alloc (.cells #[.string ⟨#[]⟩, .int .i64 0, .slice none 0 0, .slice none 0 0] 26)).drew (below_drew (hb.alloc hb.size (.cells #[.string ⟨#[]⟩, .int .i64 0, .slice none 0 0, .slice none 0 0] 26))))
    have hZ : Blk (v0.alloc (.cells #[.string ⟨#[]⟩, .int .i64 0, .slice none 0 0, .slice none 0 0] 26)).drew v0.heap.size 26 [.string ⟨#[]⟩, .int .i64 0, .slice none 0 0, .slice none 0 0] := Blk.fresh v0 26 [.string ⟨#[]⟩, .int .i64 0, .slice none 0 0, .slice none 0 0]
    have ZF := Lib.hid (show ∀ w1, Below (v0.alloc (.cells #[.string ⟨#[]⟩, .int .i64 0, .slice none 0 0, .slice none 0 0] 26)).drew.heap.size (v0.alloc (.cells #[.string ⟨#[]⟩, .int .i64 0, .slice none 0 0, .slice none 0 0] 26)).drew w1 → Blk w1 v0.heap.size 26 [.string ⟨#[]⟩, .int .i64 0, .slice none 0 0, .slice none 0 0] from fun w1 h => hZ.below h hZ.lt)
    have LT := Lib.hid (fun w1 h A8 a8 B8 b8 L k code h1 h2 => FetCut.late (v0 := v0) (w1 := w1) (nm := nm) (bs := bs) (H := H) (hg := hg) (kk := kk) (cc := cc) h (A8 := A8) (a8 := a8) (B8 := B8) (b8 := b8) (L := L) (k := k) (code := code) h1 h2)
    have OT := Lib.hid (fun w1 h A8 a8 B8 b8 L k code h1 h2 => FetCut.of (v0 := v0) (w1 := w1) (nm := nm) (bs := bs) (H := H) (hg := hg) (kk := kk) (cc := cc) h (A8 := A8) (a8 := a8) (B8 := B8) (b8 := b8) (L := L) (k := k) (code := code) h1 h2)
    clear hZ BG
    go_cut [7, 8, 9] (fun y7 y8 y9 wx => FetCut v0 nm bs H hg kk cc y7 y8 y9 wx)
    case first =>
      go_region_law
        (first
          | (go_simp; go_at_call 69; (with_reducible refine (ISc.out _).mono ?_); rintro e w9 ⟨rfl, rfl⟩)
          | (go_simp; go_at_call 74; (with_reducible refine BA.out.mono ?_); rintro e w1 ⟨A8, a8, B8, b8, L, k, code, rfl, hcd, hok, hb1⟩; have hfin := Lib.hid (LT.out w1 hb1 A8 a8 B8 b8 L k code hcd hok); clear hok)
          | (go_simp; go_at_call 74; (with_reducible refine BB.out.mono ?_); rintro e w1 ⟨A8, a8, B8, b8, L, k, code, rfl, hcd, hok, hb1⟩; have hfin := Lib.hid (OT.out w1 hb1 A8 a8 B8 b8 L k code hcd hok); have hZ1 := ZF.out w1 hb1; have z0 := hZ1.cell (i := 0) rfl; have z1 := hZ1.cell (i := 1) rfl; have z2 := hZ1.cell (i := 2) rfl; have z3 := hZ1.cell (i := 3) rfl; have zf0 := hZ1.froz 0; have zf1 := hZ1.froz 1; have zf2 := hZ1.froz 2; have zf3 := hZ1.froz 3; clear hok hZ1))
      all_goals
        clear ka0 ka1 ka2 ka3 kb0 kb1 kb2 kb3 BA BB ZF LT OT ISc
        go_wp2_with (fail)
        go_meet
        case rel => (first | (have q := hfin.out; rw [hcd] at q; exact q) | (obtain rfl : code = 0 := hcd.trans hz; exact hfin.out))
    case rest =>
    obtain ⟨g, A8, a8, B8, b8, L, k, code, rfl, rfl, rfl, hcd, hgv, P, hok, hb1⟩ := hcut
    rename_i w1
    clear ka0 ka1 ka2 ka3 kb0 kb1 kb2 kb3 BA BB ZF LT OT
    replace K := K.below hb1 K.lt
    replace O := O.below hb1 O.lt
    replace hb := hb.trans (hb1.mono hb.size)
    obtain rfl : code = 0 := by rw [hcd]; exact hz
    obtain ⟨hL, rfl, oS, oG⟩ := hok rfl
    subst L
    clear hok hcd
    obtain ⟨bg, rfl⟩ : ∃ bg, B8 = some ⟨bg, 0, none⟩ := by
      rcases oG.2 with ⟨he, h0⟩ | ⟨g, cap, cur, he, _⟩
      · omega
      · injection he with e1; exact ⟨g, e1⟩
    have nb : g ≠ bg := fun e => own_not oG P (by decide) (by rw [e]; rfl)
    obtain ⟨ga0, ga1, gf0, gf1⟩ := row_grp oG hkl
    rw [HAK.out] at ga1
    have kc1 := K.cell (i := 1) rfl
    have kc2 := K.cell (i := 2) rfl
    have pc3 := P.cell (i := 3) rfl
    clear ga0 gf0 gf1
    go_wp2_with (fail)
    refine (LM.out _).mono ?_
    rintro e w2 ⟨rfl, rfl⟩
    go_wp2_with (fail)
    clear ga1 pc3 kc1 kc2 LM
    have hPlt := P.lt
    have hOlt := O.lt
    have hlo2 : v0.heap.size ≤ w2.heap.size := hb1.size
    have al : Below w2.heap.size w2 (w2.alloc (.cells #[] 9)).drew := below_drew ((Below.refl w2.heap.size w2).alloc (Nat.le_refl _) (.cells #[] 9))
    have xa0 : w2.drew.cell? ⟨g, 0, none⟩ = _ := P.drew.cell (i := 0) rfl
    have xa1 : w2.drew.cell? ⟨g, 1, none⟩ = _ := P.drew.cell (i := 1) rfl
    have xa2 : w2.drew.cell? ⟨g, 2, none⟩ = _ := P.drew.cell (i := 2) rfl
    have xa3 : w2.drew.cell? ⟨g, 3, none⟩ = _ := P.drew.cell (i := 3) rfl
    have xk : w2.drew.cell? ⟨w.heap.size, 2, none⟩ = _ := K.drew.cell (i := 2) rfl
    have ya0 : (w2.alloc (.cells #[] 9)).drew.cell? ⟨g, 0, none⟩ = _ := (P.alloc (.cells #[] 9)).drew.cell (i := 0) rfl
    have ya1 : (w2.alloc (.cells #[] 9)).drew.cell? ⟨g, 1, none⟩ = _ := (P.alloc (.cells #[] 9)).drew.cell (i := 1) rfl
    have ya2 : (w2.alloc (.cells #[] 9)).drew.cell? ⟨g, 2, none⟩ = _ := (P.alloc (.cells #[] 9)).drew.cell (i := 2) rfl
    have ya3 : (w2.alloc (.cells #[] 9)).drew.cell? ⟨g, 3, none⟩ = _ := (P.alloc (.cells #[] 9)).drew.cell (i := 3) rfl
    have yk : (w2.alloc (.cells #[] 9)).drew.cell? ⟨w.heap.size, 2, none⟩ = _ := (K.alloc (.cells #[] 9)).drew.cell (i := 2) rfl
    have own0 : OwnS (w2.alloc (.cells #[] 9)).drew w2.heap.size (.slice (some ⟨w2.heap.size, 0, none⟩) 0 0) [] := row_below (own_empty w2 9 1 (by decide)) (below_drew (Below.refl (w2.alloc (.cells #[] 9)).heap.size (w2.alloc (.cells #[] 9)))) (Nat.le_refl _)
    have SN : Strs (w2.alloc (.cells #[] 9)).drew (w2.alloc (.cells #[] 9)).drew.heap.size A N := by
      have hq0 : N = [] := List.eq_nil_of_length_eq_zero (by rw [HQ.out]; omega)
      rw [hq0]; exact strs_nil _ _ _
    have hcN : A = none → 0 = 0 := fun _ => rfl
    have hN20 : N.length ≤ 20 := by rw [HQ.out]; exact hq20
    have hbs2 : w2.heap.size ≤ (w2.alloc (.cells #[] 9)).drew.heap.size := al.size
    have P4 := P.below al P.lt
    have K4 := K.below al K.lt
    have O4 := O.below al O.lt
    have oS4 := row_below oS al (Nat.le_refl _)
    have oG4 := row_below oG al (Nat.le_refl _)
    have hb4 := hb.trans (al.mono hb.size)
    have hz4 := hb.size
    have CF := Lib.hid (show ∀ w7, (w2.alloc (.cells #[] 9)).drew.grownBy w7 (some w2.heap.size) → FetAft w v0 g nm bs H hg bg A8 a8 b8 A B c d G w7 from fun w7 g7 => by
      have P7 := P4.grown g7 (by simp <;> omega)
      have K7 := K4.grown g7 (by simp <;> omega)
      have O7 := O4.grown g7 (by simp <;> omega)
      have hs := oS.lt
      have hgq := oG.lt
      exact ⟨P7, K7, O7, World.ownsRow.kept oS4 g7 (.inr (fun e => by have := (hs _ e).2; omega)), World.ownsRow.kept oG4 g7 (.inr (fun e => by have := (hgq _ e).2; omega)), below_row hb4 (by omega) g7 (fun k e => by injection e with e; omega)⟩)
    have hS8 := oS.lt
    clear P4 K4 O4 oS4 oG4 hb4 al P K O oS oG hb hb1
    go_region_held3 (fun W => W.cell? ⟨g, 0, none⟩ = some (.string nm) ∧ W.cell? ⟨g, 1, none⟩ = some (.int .i64 bs) ∧ W.cell? ⟨g, 2, none⟩ = some (.slice A8 H.length a8) ∧ W.cell? ⟨g, 3, none⟩ = some (.slice (some ⟨bg, 0, none⟩) hg.length b8) ∧ W.cell? ⟨w.heap.size, 2, none⟩ = some (.slice A H.length c))
      (first
        | with_reducible exact ⟨xa0, xa1, xa2, xa3, xk⟩
        | with_reducible exact ⟨ya0, ya1, ya2, ya3, yk⟩
        | with_reducible exact ⟨va0, va1, va2, va3, vk⟩
        | with_reducible exact ⟨ra0, ra1, ra2, ra3, rk⟩)
      ((refine step_app_str _ (by rfl) _ _ (by rfl) w2.heap.size (.slice (some ⟨w2.heap.size, 0, none⟩) 0 0) [] (by rfl) own0 (w2.alloc (.cells #[] 9)).drew.heap.size A N 0 0 H95.out (by rfl) hcN SN (by simp; omega) hbs2 ?_; intro A7 a7 w7 oT g7; obtain ⟨P7, K7, O7, oS7, oG7, hb7⟩ := CF.out w7 g7; have va0 := P7.cell (i := 0) rfl; have va1 := P7.cell (i := 1) rfl; have va2 := P7.cell (i := 2) rfl; have va3 := P7.cell (i := 3) rfl; have vk := K7.cell (i := 2) rfl; have qc0 := O7.cell (i := 0) rfl; have qc1 := O7.cell (i := 1) rfl; have qc2 := O7.cell (i := 2) rfl; have qc3 := O7.cell (i := 3) rfl; have qc4 := O7.cell (i := 4) rfl; have qc5 := O7.cell (i := 5) rfl; have qc6 := O7.cell (i := 6) rfl; have qf0 := O7.froz 0; have qf1 := O7.froz 1; have qf2 := O7.froz 2; have qf3 := O7.froz 3; have qf4 := O7.froz 4; have qf5 := O7.froz 5; have qf6 := O7.froz 6; have PR := (((((((P7.far (p := ⟨w.heap.size + 1, 0, none⟩) (by simp <;> omega) (.string nm)).far (p := ⟨w.heap.size + 1, 1, none⟩) (by simp <;> omega) (.int .i64 bs)).far (p := ⟨w.heap.size + 1, 2, none⟩) (by simp <;> omega) (.slice A8 H.length a8)).far (p := ⟨w.heap.size + 1, 3, none⟩) (by simp <;> omega) (.slice (some ⟨bg, 0, none⟩) hg.length b8)).far (p := ⟨w.heap.size + 1, 4, none⟩) (by simp <;> omega) (.slice A7 N.length a7)).far (p := ⟨w.heap.size + 1, 5, none⟩) (by simp <;> omega) (.int .i64 (bs + c))).far (p := ⟨w.heap.size + 1, 6, none⟩) (by simp <;> omega) (.int .i64 0)); have KR := (((((((K7.far (p := ⟨w.heap.size + 1, 0, none⟩) (by simp <;> omega) (.string nm)).far (p := ⟨w.heap.size + 1, 1, none⟩) (by simp <;> omega) (.int .i64 bs)).far (p := ⟨w.heap.size + 1, 2, none⟩) (by simp <;> omega) (.slice A8 H.length a8)).far (p := ⟨w.heap.size + 1, 3, none⟩) (by simp <;> omega) (.slice (some ⟨bg, 0, none⟩) hg.length b8)).far (p := ⟨w.heap.size + 1, 4, none⟩) (by simp <;> omega) (.slice A7 N.length a7)).far (p := ⟨w.heap.size + 1, 5, none⟩) (by simp <;> omega) (.int .i64 (bs + c))).far (p := ⟨w.heap.size + 1, 6, none⟩) (by simp <;> omega) (.int .i64 0)); have ra0 := PR.cell (i := 0) rfl; have ra1 := PR.cell (i := 1) rfl; have ra2 := PR.cell (i := 2) rfl; have ra3 := PR.cell (i := 3) rfl; have rk := KR.cell (i := 2) rfl; clear PR KR))
    all_goals
      clear ra0 ra1 ra2 ra3 rk va0 va1 va2 va3 vk P7 K7 xa0 xa1 xa2 xa3 xk ya0 ya1 ya2 ya3 yk CF
      go_wp2
      clear qc0 qc1 qc2 qc3 qc4 qc5 qc6 qf0 qf1 qf2 qf3 qf4 qf5 qf6
      rw [List.nil_append] at oT
      have hT7 := oT.lt
      have hap : Apart A8 A7 := fun x y hx hy => by
        have h1 := (hS8 x.block (by rw [hx]; rfl)).2
        have h2 := (hT7 y.block (by rw [hy]; rfl)).1
        omega
      have O := O7
      have hb := hb7
      have oT7 := oT
      clear oT O7 hb7
      have O9 := (((((((O.put 0 (.string nm)).put 1 (.int .i64 bs)).put 2 (.slice A8 H.length a8)).put 3 (.slice (some ⟨bg, 0, none⟩) hg.length b8)).put 4 (.slice A7 N.length a7)).put 5 (.int .i64 (bs + c))).put 6 (.int .i64 0))
      have hb9 := (((((((hb.setCell (p := ⟨w.heap.size + 1, 0, none⟩) (by simp <;> omega) (.string nm)).setCell (p := ⟨w.heap.size + 1, 1, none⟩) (by simp <;> omega) (.int .i64 bs)).setCell (p := ⟨w.heap.size + 1, 2, none⟩) (by simp <;> omega) (.slice A8 H.length a8)).setCell (p := ⟨w.heap.size + 1, 3, none⟩) (by simp <;> omega) (.slice (some ⟨bg, 0, none⟩) hg.length b8)).setCell (p := ⟨w.heap.size + 1, 4, none⟩) (by simp <;> omega) (.slice A7 N.length a7)).setCell (p := ⟨w.heap.size + 1, 5, none⟩) (by simp <;> omega) (.int .i64 (bs + c))).setCell (p := ⟨w.heap.size + 1, 6, none⟩) (by simp <;> omega) (.int .i64 0))
      have oS79 := (row_far (row_far (row_far (row_far (row_far (row_far (row_far oS7 (p := ⟨w.heap.size + 1, 0, none⟩) (by simp <;> omega) (.string nm)) (p := ⟨w.heap.size + 1, 1, none⟩) (by simp <;> omega) (.int .i64 bs)) (p := ⟨w.heap.size + 1, 2, none⟩) (by simp <;> omega) (.slice A8 H.length a8)) (p := ⟨w.heap.size + 1, 3, none⟩) (by simp <;> omega) (.slice (some ⟨bg, 0, none⟩) hg.length b8)) (p := ⟨w.heap.size + 1, 4, none⟩) (by simp <;> omega) (.slice A7 N.length a7)) (p := ⟨w.heap.size + 1, 5, none⟩) (by simp <;> omega) (.int .i64 (bs + c))) (p := ⟨w.heap.size + 1, 6, none⟩) (by simp <;> omega) (.int .i64 0))
      have oG79 := (row_far (row_far (row_far (row_far (row_far (row_far (row_far oG7 (p := ⟨w.heap.size + 1, 0, none⟩) (by simp <;> omega) (.string nm)) (p := ⟨w.heap.size + 1, 1, none⟩) (by simp <;> omega) (.int .i64 bs)) (p := ⟨w.heap.size + 1, 2, none⟩) (by simp <;> omega) (.slice A8 H.length a8)) (p := ⟨w.heap.size + 1, 3, none⟩) (by simp <;> omega) (.slice (some ⟨bg, 0, none⟩) hg.length b8)) (p := ⟨w.heap.size + 1, 4, none⟩) (by simp <;> omega) (.slice A7 N.length a7)) (p := ⟨w.heap.size + 1, 5, none⟩) (by simp <;> omega) (.int .i64 (bs + c))) (p := ⟨w.heap.size + 1, 6, none⟩) (by simp <;> omega) (.int .i64 0))
      have oT79 := (row_far (row_far (row_far (row_far (row_far (row_far (row_far oT7 (p := ⟨w.heap.size + 1, 0, none⟩) (by simp <;> omega) (.string nm)) (p := ⟨w.heap.size + 1, 1, none⟩) (by simp <;> omega) (.int .i64 bs)) (p := ⟨w.heap.size + 1, 2, none⟩) (by simp <;> omega) (.slice A8 H.length a8)) (p := ⟨w.heap.size + 1, 3, none⟩) (by simp <;> omega) (.slice (some ⟨bg, 0, none⟩) hg.length b8)) (p := ⟨w.heap.size + 1, 4, none⟩) (by simp <;> omega) (.slice A7 N.length a7)) (p := ⟨w.heap.size + 1, 5, none⟩) (by simp <;> omega) (.int .i64 (bs + c))) (p := ⟨w.heap.size + 1, 6, none⟩) (by simp <;> omega) (.int .i64 0))
      simp only [List.set_cons_succ, List.set_cons_zero] at O9
      generalize ((((((w7.setCell ⟨w.heap.size + 1, 0, none⟩ (.string nm)).setCell ⟨w.heap.size + 1, 1, none⟩ (.int .i64 bs)).setCell ⟨w.heap.size + 1, 2, none⟩ (.slice A8 H.length a8)).setCell ⟨w.heap.size + 1, 3, none⟩ (.slice (some ⟨bg, 0, none⟩) hg.length b8)).setCell ⟨w.heap.size + 1, 4, none⟩ (.slice A7 N.length a7)).setCell ⟨w.heap.size + 1, 5, none⟩ (.int .i64 (bs + c))).setCell ⟨w.heap.size + 1, 6, none⟩ (.int .i64 0) = w9 at O9 hb9 oS79 oG79 oT79 ⊢
      have oc0 := O9.cell (i := 0) rfl
      have oc1 := O9.cell (i := 1) rfl
      have oc2 := O9.cell (i := 2) rfl
      have oc3 := O9.cell (i := 3) rfl
      have oc4 := O9.cell (i := 4) rfl
      have oc5 := O9.cell (i := 5) rfl
      have oc6 := O9.cell (i := 6) rfl
      exact bodyPost_ret (v := .agg #[.string nm, .int .i64 bs, .slice A8 H.length a8, .slice (some ⟨bg, 0, none⟩) hg.length b8, .slice A7 N.length a7, .int .i64 (bs + c), .int .i64 0]) (by simp [results, Try.results25, go_sem, oc0, oc1, oc2, oc3, oc4, oc5, oc6]) rfl (fet_end HRF.out (by omega) oS79 oG79 (own_base oT79 (by omega)) hap hb9)
  · have hcm' : ¬ m = c := fun e => hcm e.symm
    go_enter Try.func25, Try.ntmps25
    go_wp2_with (fail)
    generalize (w.alloc (.cells #[.string nm, .int .i64 bs, .slice A H.length c, .slice B G.length d] 26)).alloc (.cells #[.string ⟨#[]⟩, .int .i64 0, .slice none 0 0, .slice none 0 0, .slice none 0 0, .int .i64 0, .int .i64 0] 30) = v0 at K O hb ⊢
    have hov := O.lt
    have ka0 : v0.drew.cell? ⟨w.heap.size, 0, none⟩ = _ := K.drew.cell (i := 0) rfl
    have ka1 : v0.drew.cell? ⟨w.heap.size, 1, none⟩ = _ := K.drew.cell (i := 1) rfl
    have ka2 : v0.drew.cell? ⟨w.heap.size, 2, none⟩ = _ := K.drew.cell (i := 2) rfl
    have ka3 : v0.drew.cell? ⟨w.heap.size, 3, none⟩ = _ := K.drew.cell (i := 3) rfl
    have kb0 : (v0.alloc (.cells #[.string ⟨#[]⟩, .int .i64 0, .slice none 0 0, .slice none 0 0] 26)).drew.cell? ⟨w.heap.size, 0, none⟩ = _ := (K.alloc (.cells #[.string ⟨#[]⟩, .int .i64 0, .slice none 0 0, .slice none 0 0] 26)).drew.cell (i := 0) rfl
    have kb1 : (v0.alloc (.cells #[.string ⟨#[]⟩, .int .i64 0, .slice none 0 0, .slice none 0 0] 26)).drew.cell? ⟨w.heap.size, 1, none⟩ = _ := (K.alloc (.cells #[.string ⟨#[]⟩, .int .i64 0, .slice none 0 0, .slice none 0 0] 26)).drew.cell (i := 1) rfl
    have kb2 : (v0.alloc (.cells #[.string ⟨#[]⟩, .int .i64 0, .slice none 0 0, .slice none 0 0] 26)).drew.cell? ⟨w.heap.size, 2, none⟩ = _ := (K.alloc (.cells #[.string ⟨#[]⟩, .int .i64 0, .slice none 0 0, .slice none 0 0] 26)).drew.cell (i := 2) rfl
    have kb3 : (v0.alloc (.cells #[.string ⟨#[]⟩, .int .i64 0, .slice none 0 0, .slice none 0 0] 26)).drew.cell? ⟨w.heap.size, 3, none⟩ = _ := (K.alloc (.cells #[.string ⟨#[]⟩, .int .i64 0, .slice none 0 0, .slice none 0 0] 26)).drew.cell (i := 3) rfl
    have BA := Lib.hid (BG.out v0.drew (below_drew hb))
    have BB := Lib.hid (BG.out (v0.alloc (.cells #[.string ⟨#[]⟩, .int .i64 0, .slice none 0 0, .slice none 0 0] 26)).drew (below_drew (hb.alloc hb.size (.cells #[.string ⟨#[]⟩, .int .i64 0, .slice none 0 0, .slice none 0 0] 26))))
    have hZ : Blk (v0.alloc (.cells #[.string ⟨#[]⟩, .int .i64 0, .slice none 0 0, .slice none 0 0] 26)).drew v0.heap.size 26 [.string ⟨#[]⟩, .int .i64 0, .slice none 0 0, .slice none 0 0] := Blk.fresh v0 26 [.string ⟨#[]⟩, .int .i64 0, .slice none 0 0, .slice none 0 0]
    have ZF := Lib.hid (show ∀ w1, Below (v0.alloc (.cells #[.string ⟨#[]⟩, .int .i64 0, .slice none 0 0, .slice none 0 0] 26)).drew.heap.size (v0.alloc (.cells #[.string ⟨#[]⟩, .int .i64 0, .slice none 0 0, .slice none 0 0] 26)).drew w1 → Blk w1 v0.heap.size 26 [.string ⟨#[]⟩, .int .i64 0, .slice none 0 0, .slice none 0 0] from fun w1 h => hZ.below h hZ.lt)
    have LT := Lib.hid (fun w1 h A8 a8 B8 b8 L k code h1 h2 => FetCut.late (v0 := v0) (w1 := w1) (nm := nm) (bs := bs) (H := H) (hg := hg) (kk := kk) (cc := cc) h (A8 := A8) (a8 := a8) (B8 := B8) (b8 := b8) (L := L) (k := k) (code := code) h1 h2)
    have OT := Lib.hid (fun w1 h A8 a8 B8 b8 L k code h1 h2 => FetCut.of (v0 := v0) (w1 := w1) (nm := nm) (bs := bs) (H := H) (hg := hg) (kk := kk) (cc := cc) h (A8 := A8) (a8 := a8) (B8 := B8) (b8 := b8) (L := L) (k := k) (code := code) h1 h2)
    clear hZ BG
    go_cut [7, 8, 9] (fun y7 y8 y9 wx => FetCut v0 nm bs H hg kk cc y7 y8 y9 wx)
    case first =>
      go_region_law
        (first
          | (go_simp; go_at_call 69; (with_reducible refine (ISc.out _).mono ?_); rintro e w9 ⟨rfl, rfl⟩)
          | (go_simp; go_at_call 74; (with_reducible refine BA.out.mono ?_); rintro e w1 ⟨A8, a8, B8, b8, L, k, code, rfl, hcd, hok, hb1⟩; have hfin := Lib.hid (LT.out w1 hb1 A8 a8 B8 b8 L k code hcd hok); clear hok)
          | (go_simp; go_at_call 74; (with_reducible refine BB.out.mono ?_); rintro e w1 ⟨A8, a8, B8, b8, L, k, code, rfl, hcd, hok, hb1⟩; have hfin := Lib.hid (OT.out w1 hb1 A8 a8 B8 b8 L k code hcd hok); have hZ1 := ZF.out w1 hb1; have z0 := hZ1.cell (i := 0) rfl; have z1 := hZ1.cell (i := 1) rfl; have z2 := hZ1.cell (i := 2) rfl; have z3 := hZ1.cell (i := 3) rfl; have zf0 := hZ1.froz 0; have zf1 := hZ1.froz 1; have zf2 := hZ1.froz 2; have zf3 := hZ1.froz 3; clear hok hZ1))
      all_goals
        clear ka0 ka1 ka2 ka3 kb0 kb1 kb2 kb3 BA BB ZF LT OT ISc
        go_wp2_with (fail)
        go_meet
        case rel => (first | (have q := hfin.out; rw [hcd] at q; exact q) | (obtain rfl : code = 0 := hcd.trans hz; exact hfin.out))
    case rest =>
    obtain ⟨g, A8, a8, B8, b8, L, k, code, rfl, rfl, rfl, hcd, hgv, P, hok, hb1⟩ := hcut
    rename_i w1
    clear ka0 ka1 ka2 ka3 kb0 kb1 kb2 kb3 BA BB ZF LT OT
    replace K := K.below hb1 K.lt
    replace O := O.below hb1 O.lt
    replace hb := hb.trans (hb1.mono hb.size)
    obtain rfl : code = 0 := by rw [hcd]; exact hz
    obtain ⟨hL, rfl, oS, oG⟩ := hok rfl
    subst L
    clear hok hcd
    obtain ⟨bg, rfl⟩ : ∃ bg, B8 = some ⟨bg, 0, none⟩ := by
      rcases oG.2 with ⟨he, h0⟩ | ⟨g, cap, cur, he, _⟩
      · omega
      · injection he with e1; exact ⟨g, e1⟩
    have nb : g ≠ bg := fun e => own_not oG P (by decide) (by rw [e]; rfl)
    obtain ⟨ga0, ga1, gf0, gf1⟩ := row_grp oG hkl
    rw [HAK.out] at ga1
    have kc1 := K.cell (i := 1) rfl
    have kc2 := K.cell (i := 2) rfl
    have pc3 := P.cell (i := 3) rfl
    clear ga0 gf0 gf1
    go_wp2_with (fail)
    refine (LM.out _).mono ?_
    rintro e w2 ⟨rfl, rfl⟩
    go_wp2_with (fail)
    clear ga1 pc3 kc1 kc2 LM
    have hPlt := P.lt
    have hOlt := O.lt
    have hlo2 : v0.heap.size ≤ w2.heap.size := hb1.size
    have al : Below w2.heap.size w2 (w2.alloc (.cells #[] 9)).drew := below_drew ((Below.refl w2.heap.size w2).alloc (Nat.le_refl _) (.cells #[] 9))
    have xa0 : w2.drew.cell? ⟨g, 0, none⟩ = _ := P.drew.cell (i := 0) rfl
    have xa1 : w2.drew.cell? ⟨g, 1, none⟩ = _ := P.drew.cell (i := 1) rfl
    have xa2 : w2.drew.cell? ⟨g, 2, none⟩ = _ := P.drew.cell (i := 2) rfl
    have xa3 : w2.drew.cell? ⟨g, 3, none⟩ = _ := P.drew.cell (i := 3) rfl
    have xk : w2.drew.cell? ⟨w.heap.size, 2, none⟩ = _ := K.drew.cell (i := 2) rfl
    have ya0 : (w2.alloc (.cells #[] 9)).drew.cell? ⟨g, 0, none⟩ = _ := (P.alloc (.cells #[] 9)).drew.cell (i := 0) rfl
    have ya1 : (w2.alloc (.cells #[] 9)).drew.cell? ⟨g, 1, none⟩ = _ := (P.alloc (.cells #[] 9)).drew.cell (i := 1) rfl
    have ya2 : (w2.alloc (.cells #[] 9)).drew.cell? ⟨g, 2, none⟩ = _ := (P.alloc (.cells #[] 9)).drew.cell (i := 2) rfl
    have ya3 : (w2.alloc (.cells #[] 9)).drew.cell? ⟨g, 3, none⟩ = _ := (P.alloc (.cells #[] 9)).drew.cell (i := 3) rfl
    have yk : (w2.alloc (.cells #[] 9)).drew.cell? ⟨w.heap.size, 2, none⟩ = _ := (K.alloc (.cells #[] 9)).drew.cell (i := 2) rfl
    have own0 : OwnS (w2.alloc (.cells #[] 9)).drew w2.heap.size (.slice (some ⟨w2.heap.size, 0, none⟩) 0 0) [] := row_below (own_empty w2 9 1 (by decide)) (below_drew (Below.refl (w2.alloc (.cells #[] 9)).heap.size (w2.alloc (.cells #[] 9)))) (Nat.le_refl _)
    have SN : Strs (w2.alloc (.cells #[] 9)).drew (w2.alloc (.cells #[] 9)).drew.heap.size (A.map (·.add m)) N := by
      have h1 := strs_drop (k := m) (hA.on (hb.trans (below_drew ((Below.refl w2.heap.size w2).alloc (Nat.le_refl _) (.cells #[] 9)) |>.mono hb.size))) hml hcl
      rw [if_neg hcm] at h1
      have h2 := strs_takeN h1 n.toNat
      rw [HN.out] at h2
      exact h2
    have hcN : (A.map (·.add m)) = none → c - m = 0 := fun e => by
      cases A with
      | none => have := hc.nil rfl; omega
      | some a => cases e
    have hN20 : N.length ≤ 20 := by rw [HQ.out]; exact hq20
    have hbs2 : w2.heap.size ≤ (w2.alloc (.cells #[] 9)).drew.heap.size := al.size
    have P4 := P.below al P.lt
    have K4 := K.below al K.lt
    have O4 := O.below al O.lt
    have oS4 := row_below oS al (Nat.le_refl _)
    have oG4 := row_below oG al (Nat.le_refl _)
    have hb4 := hb.trans (al.mono hb.size)
    have hz4 := hb.size
    have CF := Lib.hid (show ∀ w7, (w2.alloc (.cells #[] 9)).drew.grownBy w7 (some w2.heap.size) → FetAft w v0 g nm bs H hg bg A8 a8 b8 A B c d G w7 from fun w7 g7 => by
      have P7 := P4.grown g7 (by simp <;> omega)
      have K7 := K4.grown g7 (by simp <;> omega)
      have O7 := O4.grown g7 (by simp <;> omega)
      have hs := oS.lt
      have hgq := oG.lt
      exact ⟨P7, K7, O7, World.ownsRow.kept oS4 g7 (.inr (fun e => by have := (hs _ e).2; omega)), World.ownsRow.kept oG4 g7 (.inr (fun e => by have := (hgq _ e).2; omega)), below_row hb4 (by omega) g7 (fun k e => by injection e with e; omega)⟩)
    have hS8 := oS.lt
    clear P4 K4 O4 oS4 oG4 hb4 al P K O oS oG hb hb1
    go_region_held3 (fun W => W.cell? ⟨g, 0, none⟩ = some (.string nm) ∧ W.cell? ⟨g, 1, none⟩ = some (.int .i64 bs) ∧ W.cell? ⟨g, 2, none⟩ = some (.slice A8 H.length a8) ∧ W.cell? ⟨g, 3, none⟩ = some (.slice (some ⟨bg, 0, none⟩) hg.length b8) ∧ W.cell? ⟨w.heap.size, 2, none⟩ = some (.slice A H.length c))
      (first
        | with_reducible exact ⟨xa0, xa1, xa2, xa3, xk⟩
        | with_reducible exact ⟨ya0, ya1, ya2, ya3, yk⟩
        | with_reducible exact ⟨va0, va1, va2, va3, vk⟩
        | with_reducible exact ⟨ra0, ra1, ra2, ra3, rk⟩)
      ((refine step_app_str _ (by rfl) _ _ (by rfl) w2.heap.size (.slice (some ⟨w2.heap.size, 0, none⟩) 0 0) [] (by rfl) own0 (w2.alloc (.cells #[] 9)).drew.heap.size (A.map (·.add m)) N (e9 - m) (c - m) H95.out (by rfl) hcN SN (by simp; omega) hbs2 ?_; intro A7 a7 w7 oT g7; obtain ⟨P7, K7, O7, oS7, oG7, hb7⟩ := CF.out w7 g7; have va0 := P7.cell (i := 0) rfl; have va1 := P7.cell (i := 1) rfl; have va2 := P7.cell (i := 2) rfl; have va3 := P7.cell (i := 3) rfl; have vk := K7.cell (i := 2) rfl; have qc0 := O7.cell (i := 0) rfl; have qc1 := O7.cell (i := 1) rfl; have qc2 := O7.cell (i := 2) rfl; have qc3 := O7.cell (i := 3) rfl; have qc4 := O7.cell (i := 4) rfl; have qc5 := O7.cell (i := 5) rfl; have qc6 := O7.cell (i := 6) rfl; have qf0 := O7.froz 0; have qf1 := O7.froz 1; have qf2 := O7.froz 2; have qf3 := O7.froz 3; have qf4 := O7.froz 4; have qf5 := O7.froz 5; have qf6 := O7.froz 6; have PR := (((((((P7.far (p := ⟨w.heap.size + 1, 0, none⟩) (by simp <;> omega) (.string nm)).far (p := ⟨w.heap.size + 1, 1, none⟩) (by simp <;> omega) (.int .i64 bs)).far (p := ⟨w.heap.size + 1, 2, none⟩) (by simp <;> omega) (.slice A8 H.length a8)).far (p := ⟨w.heap.size + 1, 3, none⟩) (by simp <;> omega) (.slice (some ⟨bg, 0, none⟩) hg.length b8)).far (p := ⟨w.heap.size + 1, 4, none⟩) (by simp <;> omega) (.slice A7 N.length a7)).far (p := ⟨w.heap.size + 1, 5, none⟩) (by simp <;> omega) (.int .i64 (bs + m))).far (p := ⟨w.heap.size + 1, 6, none⟩) (by simp <;> omega) (.int .i64 0)); have KR := (((((((K7.far (p := ⟨w.heap.size + 1, 0, none⟩) (by simp <;> omega) (.string nm)).far (p := ⟨w.heap.size + 1, 1, none⟩) (by simp <;> omega) (.int .i64 bs)).far (p := ⟨w.heap.size + 1, 2, none⟩) (by simp <;> omega) (.slice A8 H.length a8)).far (p := ⟨w.heap.size + 1, 3, none⟩) (by simp <;> omega) (.slice (some ⟨bg, 0, none⟩) hg.length b8)).far (p := ⟨w.heap.size + 1, 4, none⟩) (by simp <;> omega) (.slice A7 N.length a7)).far (p := ⟨w.heap.size + 1, 5, none⟩) (by simp <;> omega) (.int .i64 (bs + m))).far (p := ⟨w.heap.size + 1, 6, none⟩) (by simp <;> omega) (.int .i64 0)); have ra0 := PR.cell (i := 0) rfl; have ra1 := PR.cell (i := 1) rfl; have ra2 := PR.cell (i := 2) rfl; have ra3 := PR.cell (i := 3) rfl; have rk := KR.cell (i := 2) rfl; clear PR KR))
    all_goals
      clear ra0 ra1 ra2 ra3 rk va0 va1 va2 va3 vk P7 K7 xa0 xa1 xa2 xa3 xk ya0 ya1 ya2 ya3 yk CF
      go_wp2
      clear qc0 qc1 qc2 qc3 qc4 qc5 qc6 qf0 qf1 qf2 qf3 qf4 qf5 qf6
      rw [List.nil_append] at oT
      have hT7 := oT.lt
      have hap : Apart A8 A7 := fun x y hx hy => by
        have h1 := (hS8 x.block (by rw [hx]; rfl)).2
        have h2 := (hT7 y.block (by rw [hy]; rfl)).1
        omega
      have O := O7
      have hb := hb7
      have oT7 := oT
      clear oT O7 hb7
      have O9 := (((((((O.put 0 (.string nm)).put 1 (.int .i64 bs)).put 2 (.slice A8 H.length a8)).put 3 (.slice (some ⟨bg, 0, none⟩) hg.length b8)).put 4 (.slice A7 N.length a7)).put 5 (.int .i64 (bs + m))).put 6 (.int .i64 0))
      have hb9 := (((((((hb.setCell (p := ⟨w.heap.size + 1, 0, none⟩) (by simp <;> omega) (.string nm)).setCell (p := ⟨w.heap.size + 1, 1, none⟩) (by simp <;> omega) (.int .i64 bs)).setCell (p := ⟨w.heap.size + 1, 2, none⟩) (by simp <;> omega) (.slice A8 H.length a8)).setCell (p := ⟨w.heap.size + 1, 3, none⟩) (by simp <;> omega) (.slice (some ⟨bg, 0, none⟩) hg.length b8)).setCell (p := ⟨w.heap.size + 1, 4, none⟩) (by simp <;> omega) (.slice A7 N.length a7)).setCell (p := ⟨w.heap.size + 1, 5, none⟩) (by simp <;> omega) (.int .i64 (bs + m))).setCell (p := ⟨w.heap.size + 1, 6, none⟩) (by simp <;> omega) (.int .i64 0))
      have oS79 := (row_far (row_far (row_far (row_far (row_far (row_far (row_far oS7 (p := ⟨w.heap.size + 1, 0, none⟩) (by simp <;> omega) (.string nm)) (p := ⟨w.heap.size + 1, 1, none⟩) (by simp <;> omega) (.int .i64 bs)) (p := ⟨w.heap.size + 1, 2, none⟩) (by simp <;> omega) (.slice A8 H.length a8)) (p := ⟨w.heap.size + 1, 3, none⟩) (by simp <;> omega) (.slice (some ⟨bg, 0, none⟩) hg.length b8)) (p := ⟨w.heap.size + 1, 4, none⟩) (by simp <;> omega) (.slice A7 N.length a7)) (p := ⟨w.heap.size + 1, 5, none⟩) (by simp <;> omega) (.int .i64 (bs + m))) (p := ⟨w.heap.size + 1, 6, none⟩) (by simp <;> omega) (.int .i64 0))
      have oG79 := (row_far (row_far (row_far (row_far (row_far (row_far (row_far oG7 (p := ⟨w.heap.size + 1, 0, none⟩) (by simp <;> omega) (.string nm)) (p := ⟨w.heap.size + 1, 1, none⟩) (by simp <;> omega) (.int .i64 bs)) (p := ⟨w.heap.size + 1, 2, none⟩) (by simp <;> omega) (.slice A8 H.length a8)) (p := ⟨w.heap.size + 1, 3, none⟩) (by simp <;> omega) (.slice (some ⟨bg, 0, none⟩) hg.length b8)) (p := ⟨w.heap.size + 1, 4, none⟩) (by simp <;> omega) (.slice A7 N.length a7)) (p := ⟨w.heap.size + 1, 5, none⟩) (by simp <;> omega) (.int .i64 (bs + m))) (p := ⟨w.heap.size + 1, 6, none⟩) (by simp <;> omega) (.int .i64 0))
      have oT79 := (row_far (row_far (row_far (row_far (row_far (row_far (row_far oT7 (p := ⟨w.heap.size + 1, 0, none⟩) (by simp <;> omega) (.string nm)) (p := ⟨w.heap.size + 1, 1, none⟩) (by simp <;> omega) (.int .i64 bs)) (p := ⟨w.heap.size + 1, 2, none⟩) (by simp <;> omega) (.slice A8 H.length a8)) (p := ⟨w.heap.size + 1, 3, none⟩) (by simp <;> omega) (.slice (some ⟨bg, 0, none⟩) hg.length b8)) (p := ⟨w.heap.size + 1, 4, none⟩) (by simp <;> omega) (.slice A7 N.length a7)) (p := ⟨w.heap.size + 1, 5, none⟩) (by simp <;> omega) (.int .i64 (bs + m))) (p := ⟨w.heap.size + 1, 6, none⟩) (by simp <;> omega) (.int .i64 0))
      simp only [List.set_cons_succ, List.set_cons_zero] at O9
      generalize ((((((w7.setCell ⟨w.heap.size + 1, 0, none⟩ (.string nm)).setCell ⟨w.heap.size + 1, 1, none⟩ (.int .i64 bs)).setCell ⟨w.heap.size + 1, 2, none⟩ (.slice A8 H.length a8)).setCell ⟨w.heap.size + 1, 3, none⟩ (.slice (some ⟨bg, 0, none⟩) hg.length b8)).setCell ⟨w.heap.size + 1, 4, none⟩ (.slice A7 N.length a7)).setCell ⟨w.heap.size + 1, 5, none⟩ (.int .i64 (bs + m))).setCell ⟨w.heap.size + 1, 6, none⟩ (.int .i64 0) = w9 at O9 hb9 oS79 oG79 oT79 ⊢
      have oc0 := O9.cell (i := 0) rfl
      have oc1 := O9.cell (i := 1) rfl
      have oc2 := O9.cell (i := 2) rfl
      have oc3 := O9.cell (i := 3) rfl
      have oc4 := O9.cell (i := 4) rfl
      have oc5 := O9.cell (i := 5) rfl
      have oc6 := O9.cell (i := 6) rfl
      exact bodyPost_ret (v := .agg #[.string nm, .int .i64 bs, .slice A8 H.length a8, .slice (some ⟨bg, 0, none⟩) hg.length b8, .slice A7 N.length a7, .int .i64 (bs + m), .int .i64 0]) (by simp [results, Try.results25, go_sem, oc0, oc1, oc2, oc3, oc4, oc5, oc6]) rfl (fet_end HRF.out (by omega) oS79 oG79 (own_base oT79 (by omega)) hap hb9)
end Go.Proofs.Ytjnbhppnchmeoaa

namespace Go.Proofs.Ytjnbhppnchmeoaa
open Go.RowKit Go.Deep
set_option linter.unusedVariables false
set_option maxRecDepth 1000000
theorem fet_small (t : Tpc) (gn : ByteArray) (n : Int) : (fetT t gn n).o.held.length ≤ maxLen ∧ (fetT t gn n).o.groups.length ≤ maxLen ∧ (fetT t gn n).texts.length ≤ maxLen ∧ 1 + (fetT t gn n).o.held.length + 2 * (fetT t gn n).o.groups.length + (fetT t gn n).texts.length ≤ 3900001 := by
  by_cases h : begC t gn (inB n 0 20) = 0
  · have ho := beg_top h
    have h1 := ho.2.2.1
    have h2 := ho.2.2.2.2.1
    have h3 := hasG_len t gn
    rw [fetT_ok h]
    simp [fetchA, maxLen]
    omega
  · rw [fetT_ill h]
    simp [ill, maxLen]
theorem specTopicFetch_any (t : Tpc) (gn : ByteArray) (n : Int) (A : Option Addr) (c : Nat) (B : Option Addr) (d : Nat) (w : World) (hf : t.fits) (hs : gn.size ≤ maxLen) (hn : (Lit.int .i64 n).wf = true) (hA : Strs w w.heap.size A t.held) (hB : Grs w w.heap.size B t.groups) (hc : Cap A t.held.length c) (hd : Cap B t.groups.length d) :
    Calls Try.prog 25 #[topV t.name t.base (.slice A t.held.length c) (.slice B t.groups.length d), .string gn, .int .i64 n] w fun e w' => SpO w w' e (fetT t gn n) := by
  obtain ⟨z1, z2, z3, z4⟩ := fet_small t gn n
  exact Calls.mono (R := fun e w' => ImO w w' e (fetT t gn n)) (specTopicFetch_im t gn n A c B d w hf hs hA hB hc hd) (fun e w' h => ImO.sp h z1 z2 z3)
theorem fetchT_of (t : Tpc) (gn : ByteArray) (n : Int) : fetT t gn n = rfR t gn (inB n 0 20) (fetchA ⟨t.name, t.base, t.held, hasG t gn⟩ (posG t.groups gn) n) := by
  rw [← forR_eq]; rfl
theorem fetchCL (t : Tpc) (gn : ByteArray) (n : Int) (r : Bool) (hr0 : inB n 0 20 = r) (lo p : Nat) (hp : lo ≤ p) (hsm : t.small) (W : World) (b5 b7 b9 : Nat) (A2 : Option Addr) (a2 : Nat) (B2 : Option Addr) (b2 : Nat) (hw : Wk W lo p t ⟨#[]⟩ n A2 a2 B2 b2) (ho : topOK t) (hr : r = true) (hg : gn.size ≤ 20000) (h5 : Blk W b5 126 [.pointer (some ⟨p, 0, none⟩)]) (h7 : Blk W b7 9 [.string gn]) (h9 : Blk W b9 97 [.func (.func 72) #[.pointer (some ⟨p, 0, none⟩)] #[]]) :
    Calls Try.prog 114 #[.pointer (some ⟨b5, 0, none⟩), .pointer (some ⟨b7, 0, none⟩), .pointer (some ⟨b9, 0, none⟩)] W (OpPost lo p ⟨#[]⟩ n (forA t gn (fetchA ⟨t.name, t.base, t.held, hasG t gn⟩ (posG t.groups gn) n)) W) :=
  forC_fetch t gn ⟨#[]⟩ n _ lo p b5 b7 b9 A2 a2 B2 b2 W hw ho hp (by omega) h5 h7 h9 (fun W' A3 a3 bg b3 h => fetch_any ⟨t.name, t.base, t.held, hasG t gn⟩ ⟨#[]⟩ n lo p bg (posG t.groups gn) A3 a3 b3 W' h hp ho.2.2.1 (fun x hx => by obtain ⟨i, hi, rfl⟩ := List.mem_iff_getElem.1 hx; exact hsm.2.1.2 i hi) (inB_true ho.2.1).1 ho.2.2.2.2.2.1 (hasG_lt t gn) (inB_true (hr0.trans hr)).1 (inB_true (hr0.trans hr)).2 (hasG_in t gn ho (hasG_lt t gn)).1 (hasG_in t gn ho (hasG_lt t gn)).2)
set_option maxHeartbeats 8000000 in
theorem implTopicFetch_any (t : Tpc) (gn : ByteArray) (n : Int) (A : Option Addr) (c : Nat) (B : Option Addr) (d : Nat) (w : World) (hf : t.fits) (hsm : t.small) (hs : gn.size ≤ maxLen) (hA : Strs w w.heap.size A t.held) (hB : Grs w w.heap.size B t.groups) :
    Calls Try.prog 22 #[topV t.name t.base (.slice A t.held.length c) (.slice B t.groups.length d), .string gn, .int .i64 n] w fun e w' => ImO w w' e (fetT t gn n) := by
  have HS := Lib.hid (fetchT_of t gn n)
  obtain ⟨rm, HM⟩ : ∃ x, Hid (inB n 0 20 = x) := ⟨_, Lib.hid rfl⟩
  have TX := inRange_any HM.out
  rw [HM.out] at HS
  have RN := Lib.hid (fun W p (h : Below w.heap.size w W) (hp : w.heap.size ≤ p) P => runFor2_any t gn ⟨#[]⟩ n rm (fetchA ⟨t.name, t.base, t.held, hasG t gn⟩ (posG t.groups gn) n) 72 w.heap.size p A c B d W hf hsm hs (hA.on h) (hB.on h) hp (fun W b5 b7 b9 A2 a2 B2 b2 hw ho hr hg h5 h7 h9 => fetchCL t gn n rm HM.out w.heap.size p hp hsm W b5 b7 b9 A2 a2 B2 b2 hw ho hr hg h5 h7 h9) P)
  obtain ⟨R, HR0⟩ : ∃ x, Hid (fetT t gn n = x) := ⟨_, Lib.hid rfl⟩
  rw [HR0.out] at HS ⊢
  rw [← HS.out] at RN
  clear HS HR0
  obtain ⟨nm, bs, H, G⟩ := t
  simp only at RN hA hB ⊢
  have K := (Blk.fresh w 26 [.string nm, .int .i64 bs, .slice A H.length c, .slice B G.length d]).alloc (.cells #[.string ⟨#[]⟩, .int .i64 0, .slice none 0 0, .slice none 0 0, .slice none 0 0, .int .i64 0, .int .i64 0] 30)
  have O := Blk.fresh (w.alloc (.cells #[.string nm, .int .i64 bs, .slice A H.length c, .slice B G.length d] 26)) 30 [.string ⟨#[]⟩, .int .i64 0, .slice none 0 0, .slice none 0 0, .slice none 0 0, .int .i64 0, .int .i64 0]
  have hb : Below w.heap.size w ((w.alloc (.cells #[.string nm, .int .i64 bs, .slice A H.length c, .slice B G.length d] 26)).alloc (.cells #[.string ⟨#[]⟩, .int .i64 0, .slice none 0 0, .slice none 0 0, .slice none 0 0, .int .i64 0, .int .i64 0] 30)) := ((Below.refl _ _).alloc (Nat.le_refl _) _).alloc (by simp) _
  simp only [World.size_alloc] at K O
  replace K : Blk ((w.alloc (.cells #[.string nm, .int .i64 bs, .slice A H.length c, .slice B G.length d] 26)).alloc (.cells #[.string ⟨#[]⟩, .int .i64 0, .slice none 0 0, .slice none 0 0, .slice none 0 0, .int .i64 0, .int .i64 0] 30)) w.heap.size 26 [.string nm, .int .i64 bs, .slice A H.length c, .slice B G.length d] := K
  replace O : Blk ((w.alloc (.cells #[.string nm, .int .i64 bs, .slice A H.length c, .slice B G.length d] 26)).alloc (.cells #[.string ⟨#[]⟩, .int .i64 0, .slice none 0 0, .slice none 0 0, .slice none 0 0, .int .i64 0, .int .i64 0] 30)) (w.heap.size + 1) 30 [.string ⟨#[]⟩, .int .i64 0, .slice none 0 0, .slice none 0 0, .slice none 0 0, .int .i64 0, .int .i64 0] := O
  have hz1 : ((w.alloc (.cells #[.string nm, .int .i64 bs, .slice A H.length c, .slice B G.length d] 26)).alloc (.cells #[.string ⟨#[]⟩, .int .i64 0, .slice none 0 0, .slice none 0 0, .slice none 0 0, .int .i64 0, .int .i64 0] 30)).heap.size = w.heap.size + 1 + 1 := by simp
  have hK := K.alloc (.cells #[.string ⟨#[]⟩, .int .i64 0, .slice none 0 0, .slice none 0 0, .string ⟨#[]⟩, .int .i64 n, .slice none 0 0, .int .i64 0] 83)
  have hO := O.alloc (.cells #[.string ⟨#[]⟩, .int .i64 0, .slice none 0 0, .slice none 0 0, .string ⟨#[]⟩, .int .i64 n, .slice none 0 0, .int .i64 0] 83)
  have hP := Blk.fresh ((w.alloc (.cells #[.string nm, .int .i64 bs, .slice A H.length c, .slice B G.length d] 26)).alloc (.cells #[.string ⟨#[]⟩, .int .i64 0, .slice none 0 0, .slice none 0 0, .slice none 0 0, .int .i64 0, .int .i64 0] 30)) 83 [.string ⟨#[]⟩, .int .i64 0, .slice none 0 0, .slice none 0 0, .string ⟨#[]⟩, .int .i64 n, .slice none 0 0, .int .i64 0]
  rw [hz1] at hP
  have hb2 := hb.alloc hb.size (.cells #[.string ⟨#[]⟩, .int .i64 0, .slice none 0 0, .slice none 0 0, .string ⟨#[]⟩, .int .i64 n, .slice none 0 0, .int .i64 0] 83)
  clear hz1 K O hb
  go_enter Try.func22, Try.ntmps22
  go_wp2_with (fail)
  generalize ((w.alloc (.cells #[.string nm, .int .i64 bs, .slice A H.length c, .slice B G.length d] 26)).alloc (.cells #[.string ⟨#[]⟩, .int .i64 0, .slice none 0 0, .slice none 0 0, .slice none 0 0, .int .i64 0, .int .i64 0] 30)).alloc (.cells #[.string ⟨#[]⟩, .int .i64 0, .slice none 0 0, .slice none 0 0, .string ⟨#[]⟩, .int .i64 n, .slice none 0 0, .int .i64 0] 83) = w2 at hK hO hP hb2 ⊢
  have TXb := Lib.hid (fun W => bl (TX W))
  clear TX
  obtain ⟨I, fw, hI, g5', h6, g6', g7'⟩ := class_grown w2
  have kk0 := fun q => kept_cell (h6 q) (hK.cell (i := 0) rfl)
  have kk1 := fun q => kept_cell (h6 q) (hK.cell (i := 1) rfl)
  have kk2 := fun q => kept_cell (h6 q) (hK.cell (i := 2) rfl)
  have kk3 := fun q => kept_cell (h6 q) (hK.cell (i := 3) rfl)
  have G7 := Lib.hid g7'
  have G6 := Lib.hid g6'
  clear h6 g7' g6'
  refine wp_region_class_tail (C := fun w' => ∃ q, w' = fw q) 5 (by kernel_rfl) (by kernel_rfl) g5' ?_
  simp only [List.take_succ_cons, List.take_zero, List.drop_succ_cons, List.drop_zero]
  repeat (first
    | go_big_quiet_skip
    | (go_big_quiet_want; go_big_quiet_op; first | go_big_quiet_on | (apply Exists.intro; refine ⟨fun q => ?_, ?_⟩; (go_at_call 64; (with_reducible refine (TXb.out _).mono ?_); rintro e w9 ⟨rfl, hb9'⟩; exact ⟨rfl, G6.out _ _ hb9'⟩); go_big_quiet_on)))
  refine wpQuiet_nil ?_
  intro w5 h5
  have hb5 := G7.out _ h5
  have hP5 := hP.below hb5 hP.lt
  have hO5 := hO.below hb5 hO.lt
  have hw5 := hb2.trans (hb5.mono hb2.size)
  clear kk0 kk1 kk2 kk3 g5' h5 hK hP hO hb5 hb2
  have RN5 := RN.out w5 (w.heap.size + 1 + 1) hw5 (by omega) hP5
  go_wp2_with (fail)
  obtain ⟨⟨on, ob, oH, oG⟩, N, rn, co⟩ := R
  clear RN
  refine RN5.mono ?_
  rintro e w6 ⟨⟨A1, a1, B1, b1, T1, x1, rfl, sA, sB, sT, hap, cA, cB, hb6⟩, kp⟩
  simp only at sA sB sT cA cB
  have O := kp _ _ (by omega) hO5
  have hb := hw5.trans hb6
  clear RN5 kp hO5 hP5 hb6 hw5
  have qc0 := O.cell (i := 0) rfl
  have qf0 := O.froz 0
  have qc1 := O.cell (i := 1) rfl
  have qf1 := O.froz 1
  have qc2 := O.cell (i := 2) rfl
  have qf2 := O.froz 2
  have qc3 := O.cell (i := 3) rfl
  have qf3 := O.froz 3
  have qc4 := O.cell (i := 4) rfl
  have qf4 := O.froz 4
  have qc5 := O.cell (i := 5) rfl
  have qf5 := O.froz 5
  have qc6 := O.cell (i := 6) rfl
  have qf6 := O.froz 6
  go_wp2
  clear qc0 qf0 qc1 qf1 qc2 qf2 qc3 qf3 qc4 qf4 qc5 qf5 qc6 qf6
  have hsz : (((((((w6.setCell ⟨w.heap.size + 1, 0, none⟩ (.string on)).setCell ⟨w.heap.size + 1, 1, none⟩ (.int .i64 ob)).setCell ⟨w.heap.size + 1, 2, none⟩ (.slice A1 oH.length a1)).setCell ⟨w.heap.size + 1, 3, none⟩ (.slice B1 oG.length b1)).setCell ⟨w.heap.size + 1, 4, none⟩ (.slice T1 N.length x1)).setCell ⟨w.heap.size + 1, 5, none⟩ (.int .i64 rn)).setCell ⟨w.heap.size + 1, 6, none⟩ (.int .i64 co)).heap.size = w6.heap.size := by simp [World.setCell]
  have rA := (((((((sA.off O (by decide) 0 (.string on)).off (O.put 0 (.string on)) (by decide) 1 (.int .i64 ob)).off ((O.put 0 (.string on)).put 1 (.int .i64 ob)) (by decide) 2 (.slice A1 oH.length a1)).off (((O.put 0 (.string on)).put 1 (.int .i64 ob)).put 2 (.slice A1 oH.length a1)) (by decide) 3 (.slice B1 oG.length b1)).off ((((O.put 0 (.string on)).put 1 (.int .i64 ob)).put 2 (.slice A1 oH.length a1)).put 3 (.slice B1 oG.length b1)) (by decide) 4 (.slice T1 N.length x1)).off (((((O.put 0 (.string on)).put 1 (.int .i64 ob)).put 2 (.slice A1 oH.length a1)).put 3 (.slice B1 oG.length b1)).put 4 (.slice T1 N.length x1)) (by decide) 5 (.int .i64 rn)).off ((((((O.put 0 (.string on)).put 1 (.int .i64 ob)).put 2 (.slice A1 oH.length a1)).put 3 (.slice B1 oG.length b1)).put 4 (.slice T1 N.length x1)).put 5 (.int .i64 rn)) (by decide) 6 (.int .i64 co))
  have rB := (((((((sB.off O (by decide) 0 (.string on)).off (O.put 0 (.string on)) (by decide) 1 (.int .i64 ob)).off ((O.put 0 (.string on)).put 1 (.int .i64 ob)) (by decide) 2 (.slice A1 oH.length a1)).off (((O.put 0 (.string on)).put 1 (.int .i64 ob)).put 2 (.slice A1 oH.length a1)) (by decide) 3 (.slice B1 oG.length b1)).off ((((O.put 0 (.string on)).put 1 (.int .i64 ob)).put 2 (.slice A1 oH.length a1)).put 3 (.slice B1 oG.length b1)) (by decide) 4 (.slice T1 N.length x1)).off (((((O.put 0 (.string on)).put 1 (.int .i64 ob)).put 2 (.slice A1 oH.length a1)).put 3 (.slice B1 oG.length b1)).put 4 (.slice T1 N.length x1)) (by decide) 5 (.int .i64 rn)).off ((((((O.put 0 (.string on)).put 1 (.int .i64 ob)).put 2 (.slice A1 oH.length a1)).put 3 (.slice B1 oG.length b1)).put 4 (.slice T1 N.length x1)).put 5 (.int .i64 rn)) (by decide) 6 (.int .i64 co))
  have rT := (((((((sT.off O (by decide) 0 (.string on)).off (O.put 0 (.string on)) (by decide) 1 (.int .i64 ob)).off ((O.put 0 (.string on)).put 1 (.int .i64 ob)) (by decide) 2 (.slice A1 oH.length a1)).off (((O.put 0 (.string on)).put 1 (.int .i64 ob)).put 2 (.slice A1 oH.length a1)) (by decide) 3 (.slice B1 oG.length b1)).off ((((O.put 0 (.string on)).put 1 (.int .i64 ob)).put 2 (.slice A1 oH.length a1)).put 3 (.slice B1 oG.length b1)) (by decide) 4 (.slice T1 N.length x1)).off (((((O.put 0 (.string on)).put 1 (.int .i64 ob)).put 2 (.slice A1 oH.length a1)).put 3 (.slice B1 oG.length b1)).put 4 (.slice T1 N.length x1)) (by decide) 5 (.int .i64 rn)).off ((((((O.put 0 (.string on)).put 1 (.int .i64 ob)).put 2 (.slice A1 oH.length a1)).put 3 (.slice B1 oG.length b1)).put 4 (.slice T1 N.length x1)).put 5 (.int .i64 rn)) (by decide) 6 (.int .i64 co))
  have O9 := (((((((O.put 0 (.string on)).put 1 (.int .i64 ob)).put 2 (.slice A1 oH.length a1)).put 3 (.slice B1 oG.length b1)).put 4 (.slice T1 N.length x1)).put 5 (.int .i64 rn)).put 6 (.int .i64 co))
  have hb9 := (((((((hb.setCell (p := ⟨w.heap.size + 1, 0, none⟩) (by simp <;> omega) (.string on)).setCell (p := ⟨w.heap.size + 1, 1, none⟩) (by simp <;> omega) (.int .i64 ob)).setCell (p := ⟨w.heap.size + 1, 2, none⟩) (by simp <;> omega) (.slice A1 oH.length a1)).setCell (p := ⟨w.heap.size + 1, 3, none⟩) (by simp <;> omega) (.slice B1 oG.length b1)).setCell (p := ⟨w.heap.size + 1, 4, none⟩) (by simp <;> omega) (.slice T1 N.length x1)).setCell (p := ⟨w.heap.size + 1, 5, none⟩) (by simp <;> omega) (.int .i64 rn)).setCell (p := ⟨w.heap.size + 1, 6, none⟩) (by simp <;> omega) (.int .i64 co))
  simp only [List.set_cons_succ, List.set_cons_zero] at O9
  generalize ((((((w6.setCell ⟨w.heap.size + 1, 0, none⟩ (.string on)).setCell ⟨w.heap.size + 1, 1, none⟩ (.int .i64 ob)).setCell ⟨w.heap.size + 1, 2, none⟩ (.slice A1 oH.length a1)).setCell ⟨w.heap.size + 1, 3, none⟩ (.slice B1 oG.length b1)).setCell ⟨w.heap.size + 1, 4, none⟩ (.slice T1 N.length x1)).setCell ⟨w.heap.size + 1, 5, none⟩ (.int .i64 rn)).setCell ⟨w.heap.size + 1, 6, none⟩ (.int .i64 co) = w9 at O9 hb9 hsz rA rB rT  ⊢
  have oc0 := O9.cell (i := 0) rfl
  have oc1 := O9.cell (i := 1) rfl
  have oc2 := O9.cell (i := 2) rfl
  have oc3 := O9.cell (i := 3) rfl
  have oc4 := O9.cell (i := 4) rfl
  have oc5 := O9.cell (i := 5) rfl
  have oc6 := O9.cell (i := 6) rfl
  exact bodyPost_ret (v := .agg #[.string on, .int .i64 ob, .slice A1 oH.length a1, .slice B1 oG.length b1, .slice T1 N.length x1, .int .i64 rn, .int .i64 co]) (by simp [results, Try.results22, go_sem, oc0, oc1, oc2, oc3, oc4, oc5, oc6]) rfl (pub_out hsz rA rB rT hap cA cB hb9)
/-- The two answer alike. -/
theorem bothTopicFetch (t : Tpc) (gn : ByteArray) (n : Int) (hf : t.fits) (hS : t.small) (hs : gn.size ≤ maxLen) (hn : (Lit.int .i64 n).wf = true) (hbg : gn.size ≤ 1048576) :
    ∃ (o : Tpc) (N : List ByteArray) (m co : Int), o.held.length ≤ maxLen ∧ o.groups.length ≤ maxLen ∧ N.length ≤ maxLen ∧ 1 + o.held.length + 2 * o.groups.length + N.length ≤ 3900001 ∧
      (∀ A c B d w, Strs w w.heap.size A t.held → Grs w w.heap.size B t.groups → Cap A t.held.length c → Cap B t.groups.length d → Calls Try.prog 25 #[topV t.name t.base (.slice A t.held.length c) (.slice B t.groups.length d), .string gn, .int .i64 n] w fun e w' => SpO w w' e ⟨o, N, m, co⟩) ∧
      (∀ A c B d w, Strs w w.heap.size A t.held → Grs w w.heap.size B t.groups → Cap A t.held.length c → Cap B t.groups.length d → Calls Try.prog 22 #[topV t.name t.base (.slice A t.held.length c) (.slice B t.groups.length d), .string gn, .int .i64 n] w fun e w' => ImO w w' e ⟨o, N, m, co⟩) :=
  ⟨(fetT t gn n).o, (fetT t gn n).texts, (fetT t gn n).n, (fetT t gn n).code, (fet_small t gn n).1, (fet_small t gn n).2.1, (fet_small t gn n).2.2.1, (fet_small t gn n).2.2.2, fun A c B d w h1 h2 h3 h4 => specTopicFetch_any t gn n A c B d w hf hs hn h1 h2 h3 h4, fun A c B d w h1 h2 _ _ => implTopicFetch_any t gn n A c B d w hf hS hs h1 h2⟩
end Go.Proofs.Ytjnbhppnchmeoaa

namespace Go.Proofs.Ytjnbhppnchmeoaa
open Go.RowKit Go.Deep
set_option linter.unusedVariables false
set_option maxRecDepth 1000000
set_option maxHeartbeats 16000000 in
theorem forC_ack (t : Tpc) (gn s : ByteArray) (n : Int) (R : Ans) (lo p b5 b7 b9 : Nat) (A : Option Addr) (a : Nat) (B : Option Addr) (b : Nat) (w : World) (h : Wk w lo p t s n A a B b) (ho : topOK t) (hl : lo ≤ p) (hgn : gn.size ≤ 1048576)
    (h5 : Blk w b5 126 [.pointer (some ⟨p, 0, none⟩)]) (h7 : Blk w b7 9 [.string gn]) (h9 : Blk w b9 97 [.func (.func 76) #[.pointer (some ⟨p, 0, none⟩)] #[]])
    (HOP : ∀ W A2 a2 bg b2, Wk W lo p ⟨t.name, t.base, t.held, hasG t gn⟩ s n A2 a2 (some ⟨bg, 0, none⟩) b2 → Calls Try.prog 76 #[.pointer (some ⟨p, 0, none⟩), .pointer (some ⟨bg, posG t.groups gn * 2, none⟩)] W (OpPost lo p s n R W)) :
    Calls Try.prog 114 #[.pointer (some ⟨b5, 0, none⟩), .pointer (some ⟨b7, 0, none⟩), .pointer (some ⟨b9, 0, none⟩)] w (OpPost lo p s n (forA t gn R) w) := by
  have hlow : lo ≤ w.heap.size := Nat.le_trans hl (Nat.le_of_lt h.blk.lt)
  obtain ⟨P, oS, oG⟩ := h
  have hG4 := ho.2.2.2.2.1
  have GP := Lib.hid (fun W (hb : Below w.heap.size w W) => groupPlace_any B t.groups b gn W ((OwnG.grs oG).on hb) (rising_of ho) (by omega))
  have hpl := posG_le t.groups gn
  have HIF := Lib.hid (isG_iff (G := t.groups) (s := gn))
  have HH := Lib.hid (show hasG t gn = if isG t.groups gn = true then t.groups else insAt t.groups (posG t.groups gn) ⟨gn, t.base⟩ from rfl)
  have HF := Lib.hid (forA.eq_1 t gn R)
  have HOPh := Lib.hid HOP
  clear HOP
  obtain ⟨hg, Hhg⟩ : ∃ x, Hid (hasG t gn = x) := ⟨_, Lib.hid rfl⟩
  rw [Hhg.out] at HH HOPh
  obtain ⟨fr, Hfr⟩ : ∃ x, Hid (forA t gn R = x) := ⟨_, Lib.hid rfl⟩
  rw [Hfr.out] at HF ⊢
  obtain ⟨nm, bs, H, G⟩ := t
  simp only at P oS oG hG4 GP hpl HIF HH HF HOPh
  clear Hhg Hfr ho
  obtain ⟨k, HK⟩ : ∃ k, Hid (posG G gn = k) := ⟨_, Lib.hid rfl⟩
  rw [HK.out] at GP hpl HH HOPh
  have n5 := blk_ne h5 P (by decide)
  have n9 : b9 ≠ p := blk_ne h9 P (by decide)
  obtain ⟨I, fw, hI, g0, h6, gc, ge⟩ := class_grown w
  have x3 := fun q => kept_cell (h6 q) (P.cell (i := 3) rfl)
  have x5 := fun q => kept_cell (h6 q) (h5.cell (i := 0) rfl)
  have x7 := fun q => kept_cell (h6 q) (h7.cell (i := 0) rfl)
  have GE := Lib.hid ge
  have GC := Lib.hid gc
  have H6 := Lib.hid h6
  clear h6 gc ge
  rcases Bool.eq_false_or_eq_true (isG G gn) with hI2 | hI2
  · obtain ⟨hkl, hke⟩ := HIF.out.1 hI2
    simp only [HK.out] at hkl
    have HHe : Hid (hg = G) := Lib.hid (by rw [HH.out, if_pos hI2])
    have HFe : Hid (fr = R) := Lib.hid (by rw [HF.out, if_neg (by rw [hI2]; simp)])
    rw [hI2] at GP
    clear HH HF HIF hke hI2
    go_enter Try.func114, Try.ntmps114
    go_wp2_with (fail)
    refine wp_region_kept fw (by kernel_rfl) (by kernel_rfl) g0 ?_
    repeat (first
      | go_big_quiet_skip
      | (go_big_quiet_want; go_big_quiet_op; first | go_big_quiet_on | (apply Exists.intro; refine ⟨fun q => ?_, ?_⟩; (go_at_call 78; (with_reducible refine (GP.out _ (H6.out q)).mono ?_); rintro e w4 ⟨rfl, hb4⟩; exact ⟨rfl, GC.out _ _ hb4⟩); go_big_quiet_on)))
    refine wpQuiet_nil ?_
    intro w2 h2
    have hb2 := GE.out _ h2
    have P2 := P.below hb2 P.lt
    have S2 : OwnS w2 lo (.slice A H.length a) H := row_below oS hb2 (Nat.le_refl _)
    have G2 : OwnG w2 lo (.slice B G.length b) G := row_below oG hb2 (Nat.le_refl _)
    have h52 := h5.below hb2 h5.lt
    have h92 := h9.below hb2 h9.lt
    have hb02 : Below lo w w2 := hb2.mono hlow
    have KQ := Lib.hid (fun g cs (_ : g ≠ p) (h : Blk w g 30 cs) => h.below hb2 h.lt)
    have hk' : (k : Int) < (G.length : Int) := by omega
    obtain ⟨bg, rfl⟩ : ∃ bg, B = some ⟨bg, 0, none⟩ := by
      rcases oG.2 with ⟨he, h0⟩ | ⟨g, cap, cur, he, _⟩
      · rw [h0] at hkl; omega
      · injection he with e1; exact ⟨g, e1⟩
    clear h2 g0 x3 x5 x7 GE GC H6 GP
    go_wp2_with (fail)
    obtain ⟨I2, fv, hI2, v0, v6, vc, ve⟩ := class_grown w2
    have z3 := fun q => kept_cell (v6 q) (P2.cell (i := 3) rfl)
    have z5 := fun q => kept_cell (v6 q) (h52.cell (i := 0) rfl)
    have z9 := fun q => kept_cell (v6 q) (h92.cell (i := 0) rfl)
    have VE := Lib.hid ve
    clear v6 vc ve
    refine wp_region_class_tail (C := fun w' => ∃ q, w' = fv q) 8 (by kernel_rfl) (by kernel_rfl) v0 ?_
    simp only [List.take_succ_cons, List.take_zero, List.drop_succ_cons, List.drop_zero]
    repeat (first
      | go_big_quiet_skip
      | (go_big_quiet_want; go_big_quiet_op; go_big_quiet_on))
    refine wpQuiet_nil ?_
    intro w8 h8
    have hb8 := VE.out _ h8
    have P8 := P2.below hb8 P2.lt
    have S8 : OwnS w8 lo (.slice A H.length a) H := row_below S2 hb8 (Nat.le_refl _)
    have G8 := row_below G2 hb8 (Nat.le_refl _)
    have hb08 := hb02.trans (hb8.mono (Nat.le_trans hlow hb02.size))
    have K8 := Lib.hid (fun g cs (hg : g ≠ p) (h : Blk w g 30 cs) => (KQ.out g cs hg h).below hb8 (KQ.out g cs hg h).lt)
    have OP := HOPh.out w8 A a bg b ⟨by rw [HHe.out]; exact P8, S8, by rw [HHe.out]; exact G8⟩
    have OPh := Lib.hid OP
    clear OP z3 z5 z9 h8 v0 VE
    go_wp2_with (fail)
    refine OPh.out.mono ?_
    rintro e w9 ⟨o1, o2, rfl, o4⟩
    go_wp2
    go_ret
    rw [HFe.out]
    exact OpPost.after hb08 K8.out ⟨o1, o2, rfl, o4⟩ hlow
  · have HHe : Hid (hg = insAt G k ⟨gn, bs⟩) := Lib.hid (by rw [HH.out, if_neg (by rw [hI2]; simp)])
    rw [hI2] at GP
    go_enter Try.func114, Try.ntmps114
    go_wp2_with (fail)
    refine wp_region_kept fw (by kernel_rfl) (by kernel_rfl) g0 ?_
    repeat (first
      | go_big_quiet_skip
      | (go_big_quiet_want; go_big_quiet_op; first | go_big_quiet_on | (apply Exists.intro; refine ⟨fun q => ?_, ?_⟩; (go_at_call 78; (with_reducible refine (GP.out _ (H6.out q)).mono ?_); rintro e w4 ⟨rfl, hb4⟩; exact ⟨rfl, GC.out _ _ hb4⟩); go_big_quiet_on)))
    refine wpQuiet_nil ?_
    intro w2 h2
    have hb2 := GE.out _ h2
    have P2 := P.below hb2 P.lt
    have S2 : OwnS w2 lo (.slice A H.length a) H := row_below oS hb2 (Nat.le_refl _)
    have G2 : OwnG w2 lo (.slice B G.length b) G := row_below oG hb2 (Nat.le_refl _)
    have h52 := h5.below hb2 h5.lt
    have h92 := h9.below hb2 h9.lt
    have hb02 : Below lo w w2 := hb2.mono hlow
    have KQ := Lib.hid (fun g cs (_ : g ≠ p) (h : Blk w g 30 cs) => h.below hb2 h.lt)
    have h72 := h7.below hb2 h7.lt
    clear h2 g0 x3 x5 x7 GE GC H6 GP
    have c3 := P2.cell (i := 3) rfl
    have c5 := h52.cell (i := 0) rfl
    by_cases h4 : 4 ≤ G.length
    · have hd : ((G.length : Int) == 4) = true := by have : G.length = 4 := by omega
                                                     rw [this]; rfl
      have HFe : Hid (fr = ill 9) := Lib.hid (by rw [HF.out, if_pos ⟨hI2, h4⟩])
      clear HF HIF HH hI2 h4
      go_wp2
      go_ret
      rw [HFe.out]
      exact ⟨hb02, KQ.out, rfl, .inl ⟨by simp [ill], rfl⟩⟩
    have hd : ((G.length : Int) == 4) = false := by rw [beq_eq_false_iff_ne]; omega
    have HFe : Hid (fr = R) := Lib.hid (by rw [HF.out, if_neg (fun h => h4 h.2)])
    have hG3 : G.length ≤ 3 := by omega
    clear HF HIF HH hI2 h4
    have CL := Lib.hid (fun W => clone_any gn W hgn)
    go_wp2_with (fail)
    clear c3 c5
    go_cut [6] (fun y wx => AdCut w2 gn bs y wx)
    case first =>
      have x5 : w2.drew.cell? ⟨b5, 0, none⟩ = some (.pointer (some ⟨p, 0, none⟩)) := h52.drew.cell (i := 0) rfl
      have x7 : w2.drew.cell? ⟨b7, 0, none⟩ = some (.string gn) := h72.drew.cell (i := 0) rfl
      have x1 : w2.drew.cell? ⟨p, 1, none⟩ = some (.int .i64 bs) := P2.drew.cell (i := 1) rfl
      have al1 := (Below.refl w2.heap.size w2).alloc (Nat.le_refl _) (.cells #[.string ⟨#[]⟩, .int .i64 0] 94)
      have al0 : Below w2.drew.heap.size w2.drew (w2.alloc (.cells #[.string ⟨#[]⟩, .int .i64 0] 94)).drew := ⟨al1.os, al1.tape, al1.output, al1.size, al1.block⟩
      have y0 := Blk.fresh w2 94 [.string ⟨#[]⟩, .int .i64 0]
      replace y0 : Blk (w2.alloc (.cells #[.string ⟨#[]⟩, .int .i64 0] 94)).drew w2.heap.size 94 [.string ⟨#[]⟩, .int .i64 0] := y0
      have l5 := Nat.ne_of_lt h52.lt
      have l7 := Nat.ne_of_lt h72.lt
      have lp := Nat.ne_of_lt P2.lt
      have L5 := h52.lt
      have L7 := h72.lt
      have LP := P2.lt
      have dr : ∀ W, Below w2.drew.heap.size w2.drew W → Below w2.heap.size w2 W := fun W h => (below_drew (Below.refl _ w2)).trans h
      have DR := Lib.hid dr
      clear al1 dr
      have a5 := kept_cell al0 x5
      have a7 := kept_cell al0 x7
      have a1 := kept_cell al0 x1
      go_region_held3 (fun W => W.cell? ⟨b5, 0, none⟩ = some (.pointer (some ⟨p, 0, none⟩)) ∧ W.cell? ⟨b7, 0, none⟩ = some (.string gn) ∧ W.cell? ⟨p, 1, none⟩ = some (.int .i64 bs))
        (first
          | with_reducible exact ⟨x5, x7, x1⟩
          | with_reducible exact ⟨a5, a7, a1⟩
          | with_reducible exact ⟨c5, c7, c1⟩
          | with_reducible exact ⟨d5, d7, d1⟩
          | with_reducible exact ⟨e5, e7, e1⟩
          | ((with_reducible refine ⟨far2 ?_ ?_, far2 ?_ ?_, far2 ?_ ?_⟩) <;> with_reducible assumption))
        (first
          | (go_at_call 110; first
            | ((with_reducible refine (CL.out w2.drew).mono ?_); rintro e w3 ⟨rfl, hX⟩; have hsX : w2.heap.size ≤ w3.heap.size := hX.size; have m5 := Nat.ne_of_lt (Nat.lt_of_lt_of_le L5 hsX); have m7 := Nat.ne_of_lt (Nat.lt_of_lt_of_le L7 hsX); have mp := Nat.ne_of_lt (Nat.lt_of_lt_of_le LP hsX); have c5 := kept_cell hX x5; have c7 := kept_cell hX x7; have c1 := kept_cell hX x1; have hXb := hX.alloc hX.size (.cells #[.string ⟨#[]⟩, .int .i64 0] 94); have d5 := kept_cell hXb x5; have d7 := kept_cell hXb x7; have d1 := kept_cell hXb x1; have hXc := hX.alloc hX.size (.cells #[.string gn, .int .i64 bs] 94); have e5 := kept_cell hXc x5; have e7 := kept_cell hXc x7; have e1 := kept_cell hXc x1)
            | ((with_reducible refine (CL.out (w2.alloc (.cells #[.string ⟨#[]⟩, .int .i64 0] 94)).drew).mono ?_); rintro e w3 ⟨rfl, hc1⟩; have O := y0.below hc1 y0.lt; have hX := al0.trans (hc1.mono al0.size); have o0 := O.cell (i := 0) rfl; have o1 := O.cell (i := 1) rfl; have p0 := O.froz 0; have p1 := O.froz 1; have c5 := kept_cell hX x5; have c7 := kept_cell hX x7; have c1 := kept_cell hX x1)))
      all_goals
        go_wp2_with (fail)
        have hyy := DR.out _ hX
        go_meet
        case rel => first
          | with_reducible exact AdCut.late hyy
          | with_reducible exact AdCut.of O hyy (Nat.le_refl _)
    case rest =>
      obtain ⟨w3, ba, rfl, rfl, hba, O3, hb3⟩ := hcut
      have P3 := P2.below hb3 P2.lt
      have S3 : OwnS w3 lo (.slice A H.length a) H := row_below S2 hb3 (Nat.le_refl _)
      have G3 : OwnG w3 lo (.slice B G.length b) G := row_below G2 hb3 (Nat.le_refl _)
      have h53 := h52.below hb3 h52.lt
      have h93 := h92.below hb3 h92.lt
      have hb03 := hb02.trans (hb3.mono (Nat.le_trans hlow hb02.size))
      have KQ3 := Lib.hid (fun g cs (hg : g ≠ p) (h : Blk w g 30 cs) => (KQ.out g cs hg h).below hb3 (KQ.out g cs hg h).lt)
      go_wp2_with (fail)
      clear hb2 P2 S2 G2 h52 h92 hb02 KQ h72 CL
      have nb5 : ∀ k, B.map (·.block) = some k → b5 ≠ k := fun k e h => own_not G3 h53 (by decide) (by rw [own_blk, e, h])
      have nb9 : ∀ k, B.map (·.block) = some k → b9 ≠ k := fun k e h => own_not G3 h93 (by decide) (by rw [own_blk, e, h])
      have nbp : ∀ k, B.map (·.block) = some k → p ≠ k := fun k e h => own_not G3 P3 (by decide) (by rw [own_blk, e, h])
      have hl3 : lo ≤ w3.heap.size := Nat.le_trans hlow hb03.size
      have al1 := (Below.refl w3.heap.size w3).alloc (Nat.le_refl _) (.cells #[.string gn, .int .i64 bs] 94)
      have al0 : Below w3.heap.size w3 (w3.alloc (.cells #[.string gn, .int .i64 bs] 94)).drew := below_drew al1
      have hV : Blk (w3.alloc (.cells #[.string gn, .int .i64 bs] 94)).drew w3.heap.size 94 [.string gn, .int .i64 bs] := Blk.fresh w3 94 [.string gn, .int .i64 bs]
      have P4 := P3.below al0 P3.lt
      have h54 := h53.below al0 h53.lt
      have h94 := h93.below al0 h93.lt
      have O4 := O3.below al0 O3.lt
      have G4 : OwnG (w3.alloc (.cells #[.string gn, .int .i64 bs] 94)).drew lo (.slice B G.length b) G := row_below G3 al0 (Nat.le_refl _)
      have S4 : OwnS (w3.alloc (.cells #[.string gn, .int .i64 bs] 94)).drew lo (.slice A H.length a) H := row_below S3 al0 (Nat.le_refl _)
      have hb04 := hb03.trans (al0.mono hl3)
      have KQ4 := Lib.hid (fun g cs (hg : g ≠ p) (h : Blk w g 30 cs) => (KQ3.out g cs hg h).below al0 (KQ3.out g cs hg h).lt)
      have INS := Lib.hid (insert_any B G b k w3.heap.size lo ⟨gn, bs⟩ (w3.alloc (.cells #[.string gn, .int .i64 bs] 94)).drew G4 hG3 hpl hV (fun q e h => by have := (G3.lt q (by rw [own_blk, e])).2; omega) (Nat.le_trans hl3 al0.size))
      have x5 : w3.drew.cell? ⟨b5, 0, none⟩ = some (.pointer (some ⟨p, 0, none⟩)) := h53.drew.cell (i := 0) rfl
      have x3 : w3.drew.cell? ⟨p, 3, none⟩ = some (.slice B G.length b) := P3.drew.cell (i := 3) rfl
      have xa : w3.drew.cell? ⟨ba, 0, none⟩ = some (.string gn) := O3.drew.cell (i := 0) rfl
      have xb : w3.drew.cell? ⟨ba, 1, none⟩ = some (.int .i64 bs) := O3.drew.cell (i := 1) rfl
      have y5 := h54.cell (i := 0) rfl
      have y3 := P4.cell (i := 3) rfl
      have ya := O4.cell (i := 0) rfl
      have yb := O4.cell (i := 1) rfl
      have LEN := Lib.hid (insAt_len G hpl ⟨gn, bs⟩)
      have OLEN := Lib.hid (show ∀ (W : World) (B' : Option Addr) (b' : Nat), W.ownsRow lo 94 2 (.slice B' (G.length + 1) b') (G.length + 1) (gflat (insAt G k ⟨gn, bs⟩)) → ∃ bg, B' = some ⟨bg, 0, none⟩ from fun W B' b' h => by
        rcases h.2 with ⟨he, h0⟩ | ⟨g, cap, cur, he, _⟩
        · omega
        · injection he with e1; exact ⟨g, e1⟩)
      have G4L := Lib.hid G4
      have S4L := Lib.hid S4
      have P4L := Lib.hid P4
      have H5L := Lib.hid h54
      have H9L := Lib.hid h94
      clear O3 O4 hV al1 hba G4 S4 P4 h54 h94
      have ZZ := Lib.hid (show ∀ w4, (w3.alloc (.cells #[.string gn, .int .i64 bs] 94)).drew.grownBy w4 (B.map (·.block)) → w4.cell? ⟨b5, 0, none⟩ = some (.pointer (some ⟨p, 0, none⟩)) ∧ w4.cell? ⟨p, 3, none⟩ = some (.slice B G.length b) ∧ w4.frozen? ⟨p, 3, none⟩ = false from fun w4 hgr =>
        ⟨(H5L.out.grown hgr (fun e => nb5 _ e.symm rfl)).cell (i := 0) rfl, (P4L.out.grown hgr (fun e => nbp _ e.symm rfl)).cell (i := 3) rfl, (P4L.out.grown hgr (fun e => nbp _ e.symm rfl)).froz 3⟩)
      have FIN := Lib.hid (show ∀ (w4 : World) (B' : Option Addr) (b' : Nat), w4.ownsRow lo 94 2 (.slice B' (G.length + 1) b') (G.length + 1) (gflat (insAt G k ⟨gn, bs⟩)) → (w3.alloc (.cells #[.string gn, .int .i64 bs] 94)).drew.grownBy w4 (B.map (·.block)) → InCut w lo p b5 b9 nm bs H A a s n 76 (insAt G k ⟨gn, bs⟩) (w4.setCell ⟨p, 3, none⟩ (.slice B' (G.length + 1) b')) from fun w4 B' b' oI hgr => by
        obtain ⟨bg, rfl⟩ := OLEN.out _ _ _ oI
        have P5 := P4L.out.grown hgr (fun e => nbp _ e.symm rfl)
        have h55 := H5L.out.grown hgr (fun e => nb5 _ e.symm rfl)
        have h95 := H9L.out.grown hgr (fun e => nb9 _ e.symm rfl)
        have S5 := S4L.out.kept hgr (by rw [← own_blk B G.length b]; exact own_apart S4L.out G4L.out (by decide))
        have hb05 := below_row hb04 hlow hgr (fun k e => (G4L.out.lt k (by rw [own_blk, e])).1)
        have P6 := P5.put 3 (.slice (some ⟨bg, 0, none⟩) (G.length + 1) b')
        simp only [List.set_cons_succ, List.set_cons_zero] at P6
        have LE := LEN.out
        refine ⟨_, bg, b', rfl, ?_, ?_, row_off S5 (p := ⟨p, 3, none⟩) (own_not S5 P5 (by decide)) _, h55.far (p := ⟨p, 3, none⟩) n5 _, h95.far (p := ⟨p, 3, none⟩) n9 _, hb05.setCell (p := ⟨p, 3, none⟩) hl _, fun g cs hg h => ((KQ4.out g cs hg h).grown hgr (fun e => own_not G4L.out (KQ4.out g cs hg h) (by decide) (by rw [own_blk, ← e]))).far (p := ⟨p, 3, none⟩) hg _⟩
        · rw [LE]; exact P6
        · rw [LE]; exact row_off oI (p := ⟨p, 3, none⟩) (own_not oI P5 (by decide)) _)
      go_cut [4] (fun y wx => y = .int .i64 k ∧ InCut w lo p b5 b9 nm bs H A a s n 76 (insAt G k ⟨gn, bs⟩) wx)
      case first =>
        go_region_law
          (first
            | (go_simp; go_at_call 115; (with_reducible refine INS.out.mono ?_); rintro e w4 ⟨B', b', rfl, oI, hgr⟩; obtain ⟨z5, z3, zf⟩ := ZZ.out w4 hgr))
        all_goals
          have hfin := FIN.out w4 _ _ oI hgr
          clear x5 x3 xa xb y5 y3 ya yb z5 z3 zf INS ZZ
          go_wp2_with (fail)
          go_meet
          case rel => exact ⟨rfl, hfin⟩
      case rest =>
        obtain ⟨rfl, w6, bg, b', rfl, P6, G6, S6, h56, h96, hb06, kq6⟩ := hcut
        have KQ5 := Lib.hid kq6
        clear kq6 x5 x3 xa xb y5 y3 ya yb
        rw [LEN.out] at P6 G6
        have hk' : (k : Int) < (G.length : Int) + 1 := by omega
        go_wp2_with (fail)
        obtain ⟨I2, fv, hI2, v0, v6, vc, ve⟩ := class_grown w6
        have z3 := fun q => kept_cell (v6 q) (P6.cell (i := 3) rfl)
        have z5 := fun q => kept_cell (v6 q) (h56.cell (i := 0) rfl)
        have z9 := fun q => kept_cell (v6 q) (h96.cell (i := 0) rfl)
        have VE := Lib.hid ve
        clear v6 vc ve
        refine wp_region_class_tail (C := fun w' => ∃ q, w' = fv q) 8 (by kernel_rfl) (by kernel_rfl) v0 ?_
        simp only [List.take_succ_cons, List.take_zero, List.drop_succ_cons, List.drop_zero]
        repeat (first
          | go_big_quiet_skip
          | (go_big_quiet_want; go_big_quiet_op; go_big_quiet_on))
        refine wpQuiet_nil ?_
        intro w8 h8
        have hb8 := VE.out _ h8
        have P8 := P6.below hb8 P6.lt
        have S8 : OwnS w8 lo (.slice A H.length a) H := row_below S6 hb8 (Nat.le_refl _)
        have G8 := row_below G6 hb8 (Nat.le_refl _)
        have hb08 := hb06.trans (hb8.mono (Nat.le_trans hlow hb06.size))
        have K8 := Lib.hid (fun g cs (hg : g ≠ p) (h : Blk w g 30 cs) => (KQ5.out g cs hg h).below hb8 (KQ5.out g cs hg h).lt)
        have OP := HOPh.out w8 A a bg b' ⟨by simp only [HHe.out, LEN.out]; exact P8, S8, by simp only [HHe.out, LEN.out]; unfold OwnG; rw [LEN.out]; exact G8⟩
        have OPh := Lib.hid OP
        clear OP z3 z5 z9 h8 v0 VE
        go_wp2_with (fail)
        refine OPh.out.mono ?_
        rintro e w9 ⟨o1, o2, rfl, o4⟩
        go_wp2
        go_ret
        rw [HFe.out]
        exact OpPost.after hb08 K8.out ⟨o1, o2, rfl, o4⟩ hlow
end Go.Proofs.Ytjnbhppnchmeoaa

namespace Go.Proofs.Ytjnbhppnchmeoaa
open Go.RowKit Go.Deep
set_option linter.unusedVariables false
set_option maxRecDepth 1000000
theorem ackT_of (t : Tpc) (gn : ByteArray) (n : Int) : setT t gn n false = rfR t gn true (moveA ⟨t.name, t.base, t.held, hasG t gn⟩ (posG t.groups gn) n (inB n ((hasG t gn).getD (posG t.groups gn) zeroGrp).acked (t.base + t.held.length))) := by
  rw [← forR_eq]
  simp [setT]
theorem ackCL (t : Tpc) (gn : ByteArray) (n : Int) (lo p : Nat) (hp : lo ≤ p) (W : World) (b5 b7 b9 : Nat) (A2 : Option Addr) (a2 : Nat) (B2 : Option Addr) (b2 : Nat) (hw : Wk W lo p t ⟨#[]⟩ n A2 a2 B2 b2) (ho : topOK t) (hr : true = true) (hg : gn.size ≤ 20000) (h5 : Blk W b5 126 [.pointer (some ⟨p, 0, none⟩)]) (h7 : Blk W b7 9 [.string gn]) (h9 : Blk W b9 97 [.func (.func 76) #[.pointer (some ⟨p, 0, none⟩)] #[]]) :
    Calls Try.prog 114 #[.pointer (some ⟨b5, 0, none⟩), .pointer (some ⟨b7, 0, none⟩), .pointer (some ⟨b9, 0, none⟩)] W (OpPost lo p ⟨#[]⟩ n (forA t gn (moveA ⟨t.name, t.base, t.held, hasG t gn⟩ (posG t.groups gn) n (inB n ((hasG t gn).getD (posG t.groups gn) zeroGrp).acked (t.base + t.held.length)))) W) :=
  forC_ack t gn ⟨#[]⟩ n _ lo p b5 b7 b9 A2 a2 B2 b2 W hw ho hp (by omega) h5 h7 h9 (fun W' A3 a3 bg b3 h => ack_any ⟨t.name, t.base, t.held, hasG t gn⟩ ⟨#[]⟩ n lo p bg (posG t.groups gn) A3 a3 b3 W' h hp ho.2.2.1 (inB_true ho.2.1).1 ho.2.2.2.2.2.1 (hasG_lt t gn))
set_option maxHeartbeats 8000000 in
theorem implTopicAck_any (t : Tpc) (gn : ByteArray) (n : Int) (A : Option Addr) (c : Nat) (B : Option Addr) (d : Nat) (w : World) (hf : t.fits) (hsm : t.small) (hs : gn.size ≤ maxLen) (hA : Strs w w.heap.size A t.held) (hB : Grs w w.heap.size B t.groups) :
    Calls Try.prog 26 #[topV t.name t.base (.slice A t.held.length c) (.slice B t.groups.length d), .string gn, .int .i64 n] w fun e w' => ImO w w' e (setT t gn n false) := by
  have HS := Lib.hid (ackT_of t gn n)
  have RN := Lib.hid (fun W p (h : Below w.heap.size w W) (hp : w.heap.size ≤ p) P => runFor2_any t gn ⟨#[]⟩ n true (moveA ⟨t.name, t.base, t.held, hasG t gn⟩ (posG t.groups gn) n (inB n ((hasG t gn).getD (posG t.groups gn) zeroGrp).acked (t.base + t.held.length))) 76 w.heap.size p A c B d W hf hsm hs (hA.on h) (hB.on h) hp (fun W b5 b7 b9 A2 a2 B2 b2 hw ho hr hg h5 h7 h9 => ackCL t gn n w.heap.size p hp W b5 b7 b9 A2 a2 B2 b2 hw ho hr hg h5 h7 h9) P)
  obtain ⟨R, HR0⟩ : ∃ x, Hid (setT t gn n false = x) := ⟨_, Lib.hid rfl⟩
  rw [HR0.out] at HS ⊢
  rw [← HS.out] at RN
  clear HS HR0
  obtain ⟨nm, bs, H, G⟩ := t
  simp only at RN hA hB ⊢
  have K := (Blk.fresh w 26 [.string nm, .int .i64 bs, .slice A H.length c, .slice B G.length d]).alloc (.cells #[.string ⟨#[]⟩, .int .i64 0, .slice none 0 0, .slice none 0 0, .slice none 0 0, .int .i64 0, .int .i64 0] 30)
  have O := Blk.fresh (w.alloc (.cells #[.string nm, .int .i64 bs, .slice A H.length c, .slice B G.length d] 26)) 30 [.string ⟨#[]⟩, .int .i64 0, .slice none 0 0, .slice none 0 0, .slice none 0 0, .int .i64 0, .int .i64 0]
  have hb : Below w.heap.size w ((w.alloc (.cells #[.string nm, .int .i64 bs, .slice A H.length c, .slice B G.length d] 26)).alloc (.cells #[.string ⟨#[]⟩, .int .i64 0, .slice none 0 0, .slice none 0 0, .slice none 0 0, .int .i64 0, .int .i64 0] 30)) := ((Below.refl _ _).alloc (Nat.le_refl _) _).alloc (by simp) _
  simp only [World.size_alloc] at K O
  replace K : Blk ((w.alloc (.cells #[.string nm, .int .i64 bs, .slice A H.length c, .slice B G.length d] 26)).alloc (.cells #[.string ⟨#[]⟩, .int .i64 0, .slice none 0 0, .slice none 0 0, .slice none 0 0, .int .i64 0, .int .i64 0] 30)) w.heap.size 26 [.string nm, .int .i64 bs, .slice A H.length c, .slice B G.length d] := K
  replace O : Blk ((w.alloc (.cells #[.string nm, .int .i64 bs, .slice A H.length c, .slice B G.length d] 26)).alloc (.cells #[.string ⟨#[]⟩, .int .i64 0, .slice none 0 0, .slice none 0 0, .slice none 0 0, .int .i64 0, .int .i64 0] 30)) (w.heap.size + 1) 30 [.string ⟨#[]⟩, .int .i64 0, .slice none 0 0, .slice none 0 0, .slice none 0 0, .int .i64 0, .int .i64 0] := O
  have hz1 : ((w.alloc (.cells #[.string nm, .int .i64 bs, .slice A H.length c, .slice B G.length d] 26)).alloc (.cells #[.string ⟨#[]⟩, .int .i64 0, .slice none 0 0, .slice none 0 0, .slice none 0 0, .int .i64 0, .int .i64 0] 30)).heap.size = w.heap.size + 1 + 1 := by simp
  have hK := K.alloc (.cells #[.string ⟨#[]⟩, .int .i64 0, .slice none 0 0, .slice none 0 0, .string ⟨#[]⟩, .int .i64 n, .slice none 0 0, .int .i64 0] 83)
  have hO := O.alloc (.cells #[.string ⟨#[]⟩, .int .i64 0, .slice none 0 0, .slice none 0 0, .string ⟨#[]⟩, .int .i64 n, .slice none 0 0, .int .i64 0] 83)
  have hP := Blk.fresh ((w.alloc (.cells #[.string nm, .int .i64 bs, .slice A H.length c, .slice B G.length d] 26)).alloc (.cells #[.string ⟨#[]⟩, .int .i64 0, .slice none 0 0, .slice none 0 0, .slice none 0 0, .int .i64 0, .int .i64 0] 30)) 83 [.string ⟨#[]⟩, .int .i64 0, .slice none 0 0, .slice none 0 0, .string ⟨#[]⟩, .int .i64 n, .slice none 0 0, .int .i64 0]
  rw [hz1] at hP
  have hb2 := hb.alloc hb.size (.cells #[.string ⟨#[]⟩, .int .i64 0, .slice none 0 0, .slice none 0 0, .string ⟨#[]⟩, .int .i64 n, .slice none 0 0, .int .i64 0] 83)
  clear hz1 K O hb
  have kc0 := hK.cell (i := 0) rfl
  have kc1 := hK.cell (i := 1) rfl
  have kc2 := hK.cell (i := 2) rfl
  have kc3 := hK.cell (i := 3) rfl
  go_enter Try.func26, Try.ntmps26
  go_wp2_with (fail)
  clear kc0 kc1 kc2 kc3
  generalize ((w.alloc (.cells #[.string nm, .int .i64 bs, .slice A H.length c, .slice B G.length d] 26)).alloc (.cells #[.string ⟨#[]⟩, .int .i64 0, .slice none 0 0, .slice none 0 0, .slice none 0 0, .int .i64 0, .int .i64 0] 30)).alloc (.cells #[.string ⟨#[]⟩, .int .i64 0, .slice none 0 0, .slice none 0 0, .string ⟨#[]⟩, .int .i64 n, .slice none 0 0, .int .i64 0] 83) = w2 at hK hO hP hb2 ⊢
  have RN5 := RN.out w2 (w.heap.size + 1 + 1) hb2 (by omega) hP
  obtain ⟨⟨on, ob, oH, oG⟩, N, rn, co⟩ := R
  clear RN
  refine RN5.mono ?_
  rintro e w6 ⟨⟨A1, a1, B1, b1, T1, x1, rfl, sA, sB, sT, hap, cA, cB, hb6⟩, kp⟩
  simp only at sA sB sT cA cB
  have O := kp _ _ (by omega) hO
  have hb := hb2.trans hb6
  clear RN5 kp hO hP hK hb6 hb2
  have qc0 := O.cell (i := 0) rfl
  have qf0 := O.froz 0
  have qc1 := O.cell (i := 1) rfl
  have qf1 := O.froz 1
  have qc2 := O.cell (i := 2) rfl
  have qf2 := O.froz 2
  have qc3 := O.cell (i := 3) rfl
  have qf3 := O.froz 3
  have qc4 := O.cell (i := 4) rfl
  have qf4 := O.froz 4
  have qc5 := O.cell (i := 5) rfl
  have qf5 := O.froz 5
  have qc6 := O.cell (i := 6) rfl
  have qf6 := O.froz 6
  go_wp2
  clear qc0 qf0 qc1 qf1 qc2 qf2 qc3 qf3 qc4 qf4 qc5 qf5 qc6 qf6
  have hsz : (((((((w6.setCell ⟨w.heap.size + 1, 0, none⟩ (.string on)).setCell ⟨w.heap.size + 1, 1, none⟩ (.int .i64 ob)).setCell ⟨w.heap.size + 1, 2, none⟩ (.slice A1 oH.length a1)).setCell ⟨w.heap.size + 1, 3, none⟩ (.slice B1 oG.length b1)).setCell ⟨w.heap.size + 1, 4, none⟩ (.slice T1 N.length x1)).setCell ⟨w.heap.size + 1, 5, none⟩ (.int .i64 rn)).setCell ⟨w.heap.size + 1, 6, none⟩ (.int .i64 co)).heap.size = w6.heap.size := by simp [World.setCell]
  have rA := (((((((sA.off O (by decide) 0 (.string on)).off (O.put 0 (.string on)) (by decide) 1 (.int .i64 ob)).off ((O.put 0 (.string on)).put 1 (.int .i64 ob)) (by decide) 2 (.slice A1 oH.length a1)).off (((O.put 0 (.string on)).put 1 (.int .i64 ob)).put 2 (.slice A1 oH.length a1)) (by decide) 3 (.slice B1 oG.length b1)).off ((((O.put 0 (.string on)).put 1 (.int .i64 ob)).put 2 (.slice A1 oH.length a1)).put 3 (.slice B1 oG.length b1)) (by decide) 4 (.slice T1 N.length x1)).off (((((O.put 0 (.string on)).put 1 (.int .i64 ob)).put 2 (.slice A1 oH.length a1)).put 3 (.slice B1 oG.length b1)).put 4 (.slice T1 N.length x1)) (by decide) 5 (.int .i64 rn)).off ((((((O.put 0 (.string on)).put 1 (.int .i64 ob)).put 2 (.slice A1 oH.length a1)).put 3 (.slice B1 oG.length b1)).put 4 (.slice T1 N.length x1)).put 5 (.int .i64 rn)) (by decide) 6 (.int .i64 co))
  have rB := (((((((sB.off O (by decide) 0 (.string on)).off (O.put 0 (.string on)) (by decide) 1 (.int .i64 ob)).off ((O.put 0 (.string on)).put 1 (.int .i64 ob)) (by decide) 2 (.slice A1 oH.length a1)).off (((O.put 0 (.string on)).put 1 (.int .i64 ob)).put 2 (.slice A1 oH.length a1)) (by decide) 3 (.slice B1 oG.length b1)).off ((((O.put 0 (.string on)).put 1 (.int .i64 ob)).put 2 (.slice A1 oH.length a1)).put 3 (.slice B1 oG.length b1)) (by decide) 4 (.slice T1 N.length x1)).off (((((O.put 0 (.string on)).put 1 (.int .i64 ob)).put 2 (.slice A1 oH.length a1)).put 3 (.slice B1 oG.length b1)).put 4 (.slice T1 N.length x1)) (by decide) 5 (.int .i64 rn)).off ((((((O.put 0 (.string on)).put 1 (.int .i64 ob)).put 2 (.slice A1 oH.length a1)).put 3 (.slice B1 oG.length b1)).put 4 (.slice T1 N.length x1)).put 5 (.int .i64 rn)) (by decide) 6 (.int .i64 co))
  have rT := (((((((sT.off O (by decide) 0 (.string on)).off (O.put 0 (.string on)) (by decide) 1 (.int .i64 ob)).off ((O.put 0 (.string on)).put 1 (.int .i64 ob)) (by decide) 2 (.slice A1 oH.length a1)).off (((O.put 0 (.string on)).put 1 (.int .i64 ob)).put 2 (.slice A1 oH.length a1)) (by decide) 3 (.slice B1 oG.length b1)).off ((((O.put 0 (.string on)).put 1 (.int .i64 ob)).put 2 (.slice A1 oH.length a1)).put 3 (.slice B1 oG.length b1)) (by decide) 4 (.slice T1 N.length x1)).off (((((O.put 0 (.string on)).put 1 (.int .i64 ob)).put 2 (.slice A1 oH.length a1)).put 3 (.slice B1 oG.length b1)).put 4 (.slice T1 N.length x1)) (by decide) 5 (.int .i64 rn)).off ((((((O.put 0 (.string on)).put 1 (.int .i64 ob)).put 2 (.slice A1 oH.length a1)).put 3 (.slice B1 oG.length b1)).put 4 (.slice T1 N.length x1)).put 5 (.int .i64 rn)) (by decide) 6 (.int .i64 co))
  have O9 := (((((((O.put 0 (.string on)).put 1 (.int .i64 ob)).put 2 (.slice A1 oH.length a1)).put 3 (.slice B1 oG.length b1)).put 4 (.slice T1 N.length x1)).put 5 (.int .i64 rn)).put 6 (.int .i64 co))
  have hb9 := (((((((hb.setCell (p := ⟨w.heap.size + 1, 0, none⟩) (by simp <;> omega) (.string on)).setCell (p := ⟨w.heap.size + 1, 1, none⟩) (by simp <;> omega) (.int .i64 ob)).setCell (p := ⟨w.heap.size + 1, 2, none⟩) (by simp <;> omega) (.slice A1 oH.length a1)).setCell (p := ⟨w.heap.size + 1, 3, none⟩) (by simp <;> omega) (.slice B1 oG.length b1)).setCell (p := ⟨w.heap.size + 1, 4, none⟩) (by simp <;> omega) (.slice T1 N.length x1)).setCell (p := ⟨w.heap.size + 1, 5, none⟩) (by simp <;> omega) (.int .i64 rn)).setCell (p := ⟨w.heap.size + 1, 6, none⟩) (by simp <;> omega) (.int .i64 co))
  simp only [List.set_cons_succ, List.set_cons_zero] at O9
  generalize ((((((w6.setCell ⟨w.heap.size + 1, 0, none⟩ (.string on)).setCell ⟨w.heap.size + 1, 1, none⟩ (.int .i64 ob)).setCell ⟨w.heap.size + 1, 2, none⟩ (.slice A1 oH.length a1)).setCell ⟨w.heap.size + 1, 3, none⟩ (.slice B1 oG.length b1)).setCell ⟨w.heap.size + 1, 4, none⟩ (.slice T1 N.length x1)).setCell ⟨w.heap.size + 1, 5, none⟩ (.int .i64 rn)).setCell ⟨w.heap.size + 1, 6, none⟩ (.int .i64 co) = w9 at O9 hb9 hsz rA rB rT  ⊢
  have oc0 := O9.cell (i := 0) rfl
  have oc1 := O9.cell (i := 1) rfl
  have oc2 := O9.cell (i := 2) rfl
  have oc3 := O9.cell (i := 3) rfl
  have oc4 := O9.cell (i := 4) rfl
  have oc5 := O9.cell (i := 5) rfl
  have oc6 := O9.cell (i := 6) rfl
  exact bodyPost_ret (v := .agg #[.string on, .int .i64 ob, .slice A1 oH.length a1, .slice B1 oG.length b1, .slice T1 N.length x1, .int .i64 rn, .int .i64 co]) (by simp [results, Try.results26, go_sem, oc0, oc1, oc2, oc3, oc4, oc5, oc6]) rfl (pub_out hsz rA rB rT hap cA cB hb9)
/-- The two answer alike. -/
theorem bothTopicAck (t : Tpc) (gn : ByteArray) (n : Int) (hf : t.fits) (hS : t.small) (hs : gn.size ≤ maxLen) (hn : (Lit.int .i64 n).wf = true) (hbg : gn.size ≤ 1048576) :
    ∃ (o : Tpc) (N : List ByteArray) (m co : Int), o.held.length ≤ maxLen ∧ o.groups.length ≤ maxLen ∧ N.length ≤ maxLen ∧ 1 + o.held.length + 2 * o.groups.length + N.length ≤ 3900001 ∧
      (∀ A c B d w, Strs w w.heap.size A t.held → Grs w w.heap.size B t.groups → Cap A t.held.length c → Cap B t.groups.length d → Calls Try.prog 27 #[topV t.name t.base (.slice A t.held.length c) (.slice B t.groups.length d), .string gn, .int .i64 n] w fun e w' => SpO w w' e ⟨o, N, m, co⟩) ∧
      (∀ A c B d w, Strs w w.heap.size A t.held → Grs w w.heap.size B t.groups → Cap A t.held.length c → Cap B t.groups.length d → Calls Try.prog 26 #[topV t.name t.base (.slice A t.held.length c) (.slice B t.groups.length d), .string gn, .int .i64 n] w fun e w' => ImO w w' e ⟨o, N, m, co⟩) :=
  ⟨(setT t gn n false).o, (setT t gn n false).texts, (setT t gn n false).n, (setT t gn n false).code, (set_small t gn n false).1, (set_small t gn n false).2.1, (set_small t gn n false).2.2.1, (set_small t gn n false).2.2.2, fun A c B d w h1 h2 h3 h4 => specTopicAck_any t gn n A c B d w hf hs h1 h2 h3 h4, fun A c B d w h1 h2 _ _ => implTopicAck_any t gn n A c B d w hf hS hs h1 h2⟩
end Go.Proofs.Ytjnbhppnchmeoaa
