/- spec.l07Group: a topic that has a group. The contract of spec.TopicRight. spec.l07Begin: a topic that has a group, or why not. An argument that is a topic. -/
import Derived.Test.YtkimieeabmjfgaaTpSetMW
import Derived.Test.YtkimieeabmjfgaaTpOpFW
import Derived.Deep.DeepCutAuto
import Derived.Test.YtkimieeabmjfgaaTpRIW
import Derived.BigQuiet
import Derived.Test.YtkimieeabmjfgaaCmW
namespace Go.Proofs.Ytkimieeabmjfgaa
open Go.RowKit
set_option linter.unusedVariables false
set_option maxRecDepth 1000000
theorem grs_take {w : World} {B : Nat} {A : Option Addr} {L : List Grp} (h : Grs w B A L) (k : Nat) : Grs w B A (L.take k) := by
  refine ⟨Nat.le_trans (by simp; omega) h.1, fun i hi => ?_⟩
  simp at hi
  obtain ⟨a, e, h1, h2, h3⟩ := h.2 i (by omega)
  exact ⟨a, e, h1, by simpa using h2, by simpa using h3⟩
theorem grs_drop {w : World} {B : Nat} {A : Option Addr} {L : List Grp} (h : Grs w B A L) {k c : Nat} (hk : k ≤ L.length) (hc : L.length ≤ c) : Grs w B (if c = k then A else A.map (·.add (k * 2))) (L.drop k) := by
  refine ⟨Nat.le_trans (by simp) h.1, fun i hi => ?_⟩
  simp at hi
  obtain ⟨a, e, h1, h2, h3⟩ := h.2 (k + i) (by omega)
  rw [if_neg (by omega)]
  refine ⟨a.add (k * 2), by rw [e]; rfl, by rw [add_blk]; exact h1, ?_, ?_⟩
  · rw [ofNat_add, show k * 2 + i * 2 = (k + i) * 2 by omega]; simpa using h2
  · rw [ofNat_add, show k * 2 + (i * 2 + 1) = (k + i) * 2 + 1 by omega]; simpa using h3
/-- What l07Group answers: the topic's rows, and where the group is (-1: there is no room for it). -/
def GrO (w : World) (t : Tpc) (s : ByteArray) (e : Ending) (w' : World) : Prop :=
  ∃ A a B b, (if isG t.groups s = false ∧ 4 ≤ t.groups.length then e = .returned (.tuple #[topV t.name t.base (.slice A t.held.length a) (.slice B t.groups.length b), .int .i64 (-1)])
    else e = .returned (.tuple #[topV t.name t.base (.slice A t.held.length a) (.slice B (hasG t s).length b), .int .i64 (posG t.groups s)])) ∧
    OwnS w' w.heap.size (.slice A t.held.length a) t.held ∧ (¬ (isG t.groups s = false ∧ 4 ≤ t.groups.length) → OwnG w' w.heap.size (.slice B (hasG t s).length b) (hasG t s)) ∧ Below w.heap.size w w'
theorem grs_nil_cap {B : Option Addr} {n k d : Nat} (h : Cap B n d) (hk : k ≤ n) : (if d = k then B else B.map (·.add (k * 2))) = none → d - k = 0 := by
  intro e
  by_cases hc : d = k
  · omega
  · rw [if_neg hc] at e
    have : B = none := by cases B with | none => rfl | some a => simp at e
    have := h.nil this
    omega
theorem gr_full {w w1 w9 : World} {nm s : ByteArray} {bs : Int} {H : List ByteArray} {G : List Grp} {A B : Option Addr} {a b : Nat} (hi : isG G s = false) (h4 : 4 ≤ G.length) (hS : w9.ownsRow w1.heap.size 9 1 (.slice A H.length a) H.length (H.map Value.string)) (hG : w9.ownsRow w1.heap.size 68 2 (.slice B G.length b) G.length (gflat G)) (hl : w.heap.size ≤ w1.heap.size) (hb : Below w.heap.size w w9) :
    GrO w ⟨nm, bs, H, G⟩ s (.returned (.tuple #[topV nm bs (.slice A H.length a) (.slice B G.length b), .int .i64 (-1)])) w9 :=
  ⟨A, a, B, b, by rw [if_pos ⟨hi, h4⟩], own_base hS hl, fun h => absurd ⟨hi, h4⟩ h, hb⟩
theorem gr_ins {w w1 w9 : World} {nm s : ByteArray} {bs : Int} {H : List ByteArray} {G L1 L2 : List Grp} {A B : Option Addr} {a b k lo : Nat} (hi : isG G s = false) (h4 : ¬ 4 ≤ G.length) (hk : posG G s = k) (h1 : G.take k = L1) (h2 : G.drop k = L2) (hS : w9.ownsRow w1.heap.size 9 1 (.slice A H.length a) H.length (H.map Value.string)) (hG : w9.ownsRow lo 68 2 (.slice B (L1.length + (L2.length + 1)) b) (L1.length + (L2.length + 1)) (gflat (L1 ++ [⟨s, bs⟩] ++ L2))) (hl : w.heap.size ≤ w1.heap.size) (hlo : w.heap.size ≤ lo) (hb : Below w.heap.size w w9) :
    GrO w ⟨nm, bs, H, G⟩ s (.returned (.tuple #[topV nm bs (.slice A H.length a) (.slice B (L1.length + (L2.length + 1)) b), .int .i64 k])) w9 := by
  have hn : ¬ (isG G s = false ∧ 4 ≤ G.length) := fun h => h4 h.2
  have hh : hasG ⟨nm, bs, H, G⟩ s = L1 ++ [⟨s, bs⟩] ++ L2 := by
    unfold hasG insG
    rw [if_neg (by rw [hi]; simp)]
    simp only [hk, h1, h2]
  have hlen : (L1 ++ [(⟨s, bs⟩ : Grp)] ++ L2).length = L1.length + (L2.length + 1) := by simp
  refine ⟨A, a, B, b, ?_, own_base hS hl, fun _ => ?_, hb⟩
  · rw [if_neg hn, hh, hlen, hk]
  · rw [hh]; unfold OwnG; rw [hlen]; exact own_base hG hlo
theorem gr_found {w w1 w9 : World} {nm s : ByteArray} {bs : Int} {H : List ByteArray} {G : List Grp} {A B : Option Addr} {a b k : Nat} (hi : isG G s = true) (hk : posG G s = k) (hS : w9.ownsRow w1.heap.size 9 1 (.slice A H.length a) H.length (H.map Value.string)) (hG : w9.ownsRow w1.heap.size 68 2 (.slice B G.length b) G.length (gflat G)) (hl : w.heap.size ≤ w1.heap.size) (hb : Below w.heap.size w w9) :
    GrO w ⟨nm, bs, H, G⟩ s (.returned (.tuple #[topV nm bs (.slice A H.length a) (.slice B G.length b), .int .i64 k])) w9 := by
  have hn : ¬ (isG G s = false ∧ 4 ≤ G.length) := by rw [hi]; simp
  have hh : hasG ⟨nm, bs, H, G⟩ s = G := by unfold hasG; rw [if_pos hi]
  refine ⟨A, a, B, b, ?_, own_base hS hl, fun _ => ?_, hb⟩
  · rw [if_neg hn, hh, hk]
  · rw [hh]; exact own_base hG hl
set_option maxHeartbeats 8000000 in
theorem l07Group_any (t : Tpc) (s : ByteArray) (A : Option Addr) (c : Nat) (B : Option Addr) (d : Nat) (w : World) (hs : s.size ≤ maxLen) (hA : Strs w w.heap.size A t.held) (hB : Grs w w.heap.size B t.groups) (hc : Cap A t.held.length c) (hd : Cap B t.groups.length d) (hH : t.held.length ≤ 20) (hG : t.groups.length ≤ 4) :
    Calls Try.prog 83 #[topV t.name t.base (.slice A t.held.length c) (.slice B t.groups.length d), .string s] w (GrO w t s) := by
  have HA := Lib.hid (fun W (h : Below w.heap.size w W) => hA.on h)
  have HB := Lib.hid (fun W (h : Below w.heap.size w W) => hB.on h)
  have hpl := posG_le t.groups s
  have PL := Lib.hid (posG_lt t.groups s)
  have PA := Lib.hid (posG_at t.groups s)
  have IG := Lib.hid (isG_iff (G := t.groups) (s := s))
  obtain ⟨p, HPp⟩ : ∃ p, Hid (posG t.groups s = p) := ⟨_, Lib.hid rfl⟩
  simp only [HPp.out] at hpl PL PA IG
  obtain ⟨nm, bs, H, G⟩ := t
  simp only at hH hG hA hB HA HB hc hd hpl PL PA IG HPp ⊢
  have K := (Blk.fresh w 29 [.string nm, .int .i64 bs, .slice A H.length c, .slice B G.length d]).alloc (.cells #[.string ⟨#[]⟩, .int .i64 0, .slice none 0 0, .slice none 0 0] 29)
  have R := Blk.fresh (w.alloc (.cells #[.string nm, .int .i64 bs, .slice A H.length c, .slice B G.length d] 29)) 29 [.string ⟨#[]⟩, .int .i64 0, .slice none 0 0, .slice none 0 0]
  have hb : Below w.heap.size w ((w.alloc (.cells #[.string nm, .int .i64 bs, .slice A H.length c, .slice B G.length d] 29)).alloc (.cells #[.string ⟨#[]⟩, .int .i64 0, .slice none 0 0, .slice none 0 0] 29)) := ((Below.refl _ _).alloc (Nat.le_refl _) _).alloc (by simp) _
  simp only [World.size_alloc] at K R
  replace K : Blk ((w.alloc (.cells #[.string nm, .int .i64 bs, .slice A H.length c, .slice B G.length d] 29)).alloc (.cells #[.string ⟨#[]⟩, .int .i64 0, .slice none 0 0, .slice none 0 0] 29)) w.heap.size 29 [.string nm, .int .i64 bs, .slice A H.length c, .slice B G.length d] := K
  replace R : Blk ((w.alloc (.cells #[.string nm, .int .i64 bs, .slice A H.length c, .slice B G.length d] 29)).alloc (.cells #[.string ⟨#[]⟩, .int .i64 0, .slice none 0 0, .slice none 0 0] 29)) (w.heap.size + 1) 29 [.string ⟨#[]⟩, .int .i64 0, .slice none 0 0, .slice none 0 0] := R
  go_enter Try.func83, Try.ntmps83
  go_wp2_with (fail)
  generalize (w.alloc (.cells #[.string nm, .int .i64 bs, .slice A H.length c, .slice B G.length d] 29)).alloc (.cells #[.string ⟨#[]⟩, .int .i64 0, .slice none 0 0, .slice none 0 0] 29) = w1 at K R hb ⊢
  go_loopw [6] (fun i wr => ∃ k : Nat, k ≤ p ∧ i = .int .i64 k ∧ wr = w1) (fun i _ => p - (intOf i).toNat)
  case atStart => exact ⟨0, by omega, rfl, rfl⟩
  case round =>
    obtain ⟨k, hk, rfl, rfl⟩ := hrel
    have k3 := K.cell (i := 3) rfl
    have k0 := K.cell (i := 0) rfl
    have k1 := K.cell (i := 1) rfl
    have k2 := K.cell (i := 2) rfl
    by_cases hkp : k < p
    · have hlt : k < G.length := by omega
      have hlt' : (k : Int) < (G.length : Int) := by omega
      obtain ⟨a, rfl, hab, c0, c1⟩ := (HB.out _ hb).at k hlt
      have hd1 : Op.bytesLess G[k].name.toList s.toList = true := PL.out k hlt hkp
      go_wp2
      exact ⟨⟨k + 1, by omega, by go_num, trivial⟩, by simp [intOf]; omega⟩
    obtain rfl : k = p := by omega
    have CP := Lib.hid (l07Copy_any nm bs A H c B G d wr (HA.out _ hb) (HB.out _ hb) hc hd hH hG)
    by_cases hlt : k < G.length
    rotate_left
    · have hnl : ¬ (k : Int) < (G.length : Int) := by omega
      have hni := Lib.hid (show isG G s = false by
        rcases Bool.eq_false_or_eq_true (isG G s) with h | h
        · exact absurd (IG.out.1 h).1 hlt
        · exact h)
      go_wp2_with (fail)
      refine CP.out.mono ?_
      rintro e w2 ⟨A2, c2, B2, d2, rfl, oS, oG, hb2⟩
      have hlw := hb.size
      have hz2 := hb2.size
      have hR2 := R.lt
      replace K := K.below hb2 K.lt
      replace R := R.below hb2 R.lt
      replace hb := hb.trans (hb2.mono hb.size)
      clear hb2 CP k3 k0 k1 k2
      have P := Blk.fresh w2 29 [.string nm, .int .i64 bs, .slice A2 H.length c2, .slice B2 G.length d2]
      have hb3 := below_box w2 (.cells #[.string nm, .int .i64 bs, .slice A2 H.length c2, .slice B2 G.length d2] 29)
      replace P : Blk (w2.alloc (.cells #[.string nm, .int .i64 bs, .slice A2 H.length c2, .slice B2 G.length d2] 29)) w2.heap.size 29 [.string nm, .int .i64 bs, .slice A2 H.length c2, .slice B2 G.length d2] := P
      have hz3 : w2.heap.size < (w2.alloc (.cells #[.string nm, .int .i64 bs, .slice A2 H.length c2, .slice B2 G.length d2] 29)).heap.size := by simp
      go_upto_region 5 with (fail)
      generalize w2.alloc (.cells #[.string nm, .int .i64 bs, .slice A2 H.length c2, .slice B2 G.length d2] 29) = w3 at P hb3 hz3 ⊢
      replace K := K.below hb3 K.lt
      replace R := R.below hb3 R.lt
      replace hb := hb.trans (hb3.mono hb.size)
      replace oS := row_below oS hb3 (Nat.le_refl _)
      replace oG := row_below oG hb3 (Nat.le_refl _)
      clear hb3
      have k3 := K.cell (i := 3) rfl
      have p0 := P.cell (i := 0) rfl
      have p1 := P.cell (i := 1) rfl
      have p2 := P.cell (i := 2) rfl
      have p3 := P.cell (i := 3) rfl
      have hB3 := HB.out _ hb
      by_cases h4 : 4 ≤ G.length
      · have h4' : (4 : Int) ≤ (G.length : Int) := by omega
        have z0 := R.cell (i := 0) rfl
        have z1 := R.cell (i := 1) rfl
        have z2 := R.cell (i := 2) rfl
        have z3 := R.cell (i := 3) rfl
        have y0 := R.froz 0
        have y1 := R.froz 1
        have y2 := R.froz 2
        have y3 := R.froz 3
        go_wp2
        clear p0 p1 p2 p3 z0 z1 z2 z3 y0 y1 y2 y3 k3
        have R9 := ((((R.put 0 (.string nm)).put 1 (.int .i64 bs)).put 2 (.slice A2 H.length c2)).put 3 (.slice B2 G.length d2))
        have hb9 := ((((hb.setCell (p := ⟨w.heap.size + 1, 0, none⟩) (by simp <;> omega) (.string nm)).setCell (p := ⟨w.heap.size + 1, 1, none⟩) (by simp <;> omega) (.int .i64 bs)).setCell (p := ⟨w.heap.size + 1, 2, none⟩) (by simp <;> omega) (.slice A2 H.length c2)).setCell (p := ⟨w.heap.size + 1, 3, none⟩) (by simp <;> omega) (.slice B2 G.length d2))
        have nS := own_not oS R (by decide)
        have nG := own_not oG R (by decide)
        have S9 := (row_off (row_off (row_off (row_off oS (p := ⟨w.heap.size + 1, 0, none⟩) nS (.string nm)) (p := ⟨w.heap.size + 1, 1, none⟩) nS (.int .i64 bs)) (p := ⟨w.heap.size + 1, 2, none⟩) nS (.slice A2 H.length c2)) (p := ⟨w.heap.size + 1, 3, none⟩) nS (.slice B2 G.length d2))
        have G9 := (row_off (row_off (row_off (row_off oG (p := ⟨w.heap.size + 1, 0, none⟩) nG (.string nm)) (p := ⟨w.heap.size + 1, 1, none⟩) nG (.int .i64 bs)) (p := ⟨w.heap.size + 1, 2, none⟩) nG (.slice A2 H.length c2)) (p := ⟨w.heap.size + 1, 3, none⟩) nG (.slice B2 G.length d2))
        simp only [List.set_cons_succ, List.set_cons_zero] at R9
        generalize (((w3.setCell ⟨w.heap.size + 1, 0, none⟩ (.string nm)).setCell ⟨w.heap.size + 1, 1, none⟩ (.int .i64 bs)).setCell ⟨w.heap.size + 1, 2, none⟩ (.slice A2 H.length c2)).setCell ⟨w.heap.size + 1, 3, none⟩ (.slice B2 G.length d2) = w9 at R9 hb9 S9 G9 ⊢
        have r0 := R9.cell (i := 0) rfl
        have r1 := R9.cell (i := 1) rfl
        have r2 := R9.cell (i := 2) rfl
        have r3 := R9.cell (i := 3) rfl
        exact bodyPost_ret (v := .tuple #[.agg #[.string nm, .int .i64 bs, .slice A2 H.length c2, .slice B2 G.length d2], .int .i64 (-1)]) (by simp [results, Try.results83, go_sem, r0, r1, r2, r3]) rfl (gr_full hni.out h4 S9 G9 hlw hb9)
      have h4' : ¬ (4 : Int) ≤ (G.length : Int) := by omega
      obtain ⟨L1, HL1⟩ : ∃ L, Hid (G.take k = L) := ⟨_, Lib.hid rfl⟩
      obtain ⟨L2, HL2⟩ : ∃ L, Hid (G.drop k = L) := ⟨_, Lib.hid rfl⟩
      have hl1 : L1.length = k := by rw [← HL1.out]; simp; omega
      have hl2 : L2.length = G.length - k := by rw [← HL2.out]; simp
      have hl23 : L1.length + L2.length ≤ 4 := by omega
      have hM1 := fun W (h : Below w.heap.size w W) => (show Grs W W.heap.size _ L1 from HL1.out ▸ grs_take (HB.out W h) k)
      have hM2 := fun W (h : Below w.heap.size w W) => (show Grs W W.heap.size _ L2 from HL2.out ▸ grs_drop (HB.out W h) hpl hd.le)
      have HM1 := Lib.hid hM1
      have HM2 := Lib.hid hM2
      have HC2 := Lib.hid (grs_nil_cap hd hpl)
      clear hM1 hM2
      subst hl1
      have HLL := Lib.hid hl2
      clear hl2
      have k3a := (K.alloc (.cells #[] 68)).cell (i := 3) rfl
      have ow := own_empty w3 68 2 (by decide)
      have hbe := hb.alloc hb.size (.cells #[] 68)
      have hdl := hd.le
      have hkd : (L1.length : Int) ≤ (d : Int) := by omega
      have hkg : (L1.length : Int) ≤ (G.length : Int) := by omega
      go_upto_region 10 with (at_builtin; (refine wpList_app_grp rfl (.tmp 50) (.tmp 54) rfl w3.heap.size (.slice (some ⟨w3.heap.size, 0, none⟩) 0 0) [] rfl ow _ _ L1 d rfl hd.nil (HM1.out _ hbe) (by simp; omega) (by simp) ?_); intro A3 c3 w4 o4 hg4)
      rw [List.nil_append] at o4
      have hrl := R.lt
      have P4 := (P.alloc (.cells #[] 68)).grown hg4 (by simp [Value.ownBlock] <;> omega)
      have K4 := (K.alloc (.cells #[] 68)).grown hg4 (by simp [Value.ownBlock] <;> omega)
      have R4 := (R.alloc (.cells #[] 68)).grown hg4 (by simp [Value.ownBlock] <;> omega)
      have hb4 := below_row hbe (Nat.le_refl _) hg4 (fun k e => by have := hb.size; simp [Value.ownBlock] at e; omega)
      have oSa := World.ownsRow.alloc oS (.cells #[] 68)
      have oS4 := World.ownsRow.kept oSa hg4 (own_apart oSa ow (by decide))
      have hw3 := hb.size
      clear p0 p1 p2 p3 k3 k3a ow hbe K R P oSa oS oG hb hB3
      have k1 := K4.cell (i := 1) rfl
      have o4a : OwnG (w4.alloc (.cells #[.string s, .int .i64 bs] 68)) w3.heap.size (.slice A3 L1.length c3) L1 := World.ownsRow.alloc o4 _
      have hX := grs_one w4 ⟨s, bs⟩ 68
      replace hX : Grs (w4.alloc (.cells #[.string s, .int .i64 bs] 68)) (w4.heap.size + 1) (some ⟨w4.heap.size, 0, none⟩) [⟨s, bs⟩] := hX
      have h34 : w3.heap.size ≤ w4.heap.size := by have := hg4.size; simp at this; omega
      go_upto_region 11 with (at_builtin; (refine wpList_app_grp rfl (.tmp 56) (.tmp 61) rfl w3.heap.size (.slice A3 L1.length c3) L1 rfl o4a (w4.heap.size + 1) (some ⟨w4.heap.size, 0, none⟩) [⟨s, bs⟩] 1 rfl (fun e => by cases e) hX (by simp; omega) (by simp; omega) ?_); intro A4 c4 w5 o5 hg5)
      have hlo : ∀ x, (Value.slice A3 L1.length c3).ownBlock = some x → w3.heap.size ≤ x := fun x e => (o4.lt x e).1
      have P5 := (P4.alloc (.cells #[.string s, .int .i64 bs] 68)).grown hg5 (fun e => by have := hlo _ e.symm; omega)
      have K5 := (K4.alloc (.cells #[.string s, .int .i64 bs] 68)).grown hg5 (fun e => by have := hlo _ e.symm; omega)
      have R5 := (R4.alloc (.cells #[.string s, .int .i64 bs] 68)).grown hg5 (fun e => by have := hlo _ e.symm; omega)
      have hb5 := below_row (hb4.alloc hb4.size (.cells #[.string s, .int .i64 bs] 68)) (Nat.le_refl _) hg5 (fun k e => by have := hlo _ e; omega)
      have oSa := World.ownsRow.alloc oS4 (.cells #[.string s, .int .i64 bs] 68)
      have oS5 := World.ownsRow.kept oSa hg5 (own_apart oSa o4a (by decide))
      have h35 : w3.heap.size ≤ w5.heap.size := by have := hg5.size; simp at this; omega
      clear k1 o4a hX P4 K4 R4 hb4 oSa oS4 o4 hlo
      have ql : (L1 ++ [(⟨s, bs⟩ : Grp)]).length = L1.length + 1 := by simp
      have o5b : OwnG w5 w3.heap.size (.slice A4 (L1.length + 1) c4) (L1 ++ [⟨s, bs⟩]) := by rw [ql] at o5; exact o5
      have k3 := K5.cell (i := 3) rfl
      have HX2 := HM2.out _ hb5
      have HC3 := HC2.out
      by_cases hdk : d = L1.length
      · skip
        subst hdk
        replace HX2 : Grs w5 w5.heap.size B L2 := by rw [if_pos rfl] at HX2; exact HX2
        have hL2 : L2 = [] := List.eq_nil_of_length_eq_zero (by rw [HLL.out]; omega)
        subst hL2
        have HC3 : B = none → 0 = 0 := fun _ => rfl
        have hlo : ∀ x, (Value.slice A4 (L1.length + 1) c4).ownBlock = some x → w3.heap.size ≤ x := fun x e => (o5b.lt x e).1
        go_upto_region 12 with (at_builtin; (refine wpList_app_grp rfl (.tmp 63) (.tmp 67) rfl w3.heap.size (.slice A4 (L1.length + 1) c4) (L1 ++ [⟨s, bs⟩]) rfl o5b _ _ ([] : List Grp) 0 rfl HC3 HX2 (by simp; omega) h35 ?_); intro A5 c5 w6 o6 hg6; have P6 := P5.grown hg6 (fun e => by have := hlo _ e.symm; omega); have q3 := P6.cell (i := 3) rfl; have g3 := P6.froz 3)
        have hq : ((L1 ++ [(⟨s, bs⟩ : Grp)]) ++ ([] : List Grp)).length = L1.length + 1 := by simp
        have o6b : w6.ownsRow w3.heap.size 68 2 (.slice A5 (L1.length + 1) c5) (L1.length + 1) (gflat (L1 ++ [⟨s, bs⟩] ++ ([] : List Grp))) := by
          have h := o6
          unfold OwnG at h
          rw [hq] at h
          exact h
        have R6 := R5.grown hg6 (fun e => by have := hlo _ e.symm; omega)
        have oS6 := World.ownsRow.kept oS5 hg6 (own_apart oS5 o5b (by decide))
        have hb6 := below_row hb5 (Nat.le_refl _) hg6 (fun k e => by have := hlo _ e; omega)
        have hw2 : w.heap.size + 1 < w2.heap.size := by have := hz2; have := hR2; omega
        have P := P6.put 3 (.slice A5 (L1.length + 1) c5)
        have R := R6.far (p := ⟨w2.heap.size, 3, none⟩) (by simp; omega) (.slice A5 (L1.length + 1) c5)
        have oS := row_off oS6 (p := ⟨w2.heap.size, 3, none⟩) (own_not oS6 P6 (by decide)) (.slice A5 (L1.length + 1) c5)
        have oG := row_off o6b (p := ⟨w2.heap.size, 3, none⟩) (own_not o6b P6 (by decide)) (.slice A5 (L1.length + 1) c5)
        have hb := hb6.setCell (p := ⟨w2.heap.size, 3, none⟩) (by simp; omega) (.slice A5 (L1.length + 1) c5)
        simp only [List.set_cons_succ, List.set_cons_zero] at P
        generalize w6.setCell ⟨w2.heap.size, 3, none⟩ (.slice A5 (L1.length + 1) c5) = w7 at P R oS oG hb ⊢
        clear P6 R6 oS6 o6b hb6 P5 K5 R5 hb5 oS5 o5 o5b k3 HX2 q3 g3 o6 hg6
        have p0 := P.cell (i := 0) rfl
        have p1 := P.cell (i := 1) rfl
        have p2 := P.cell (i := 2) rfl
        have p3 := P.cell (i := 3) rfl
        have z0 := R.cell (i := 0) rfl
        have z1 := R.cell (i := 1) rfl
        have z2 := R.cell (i := 2) rfl
        have z3 := R.cell (i := 3) rfl
        have y0 := R.froz 0
        have y1 := R.froz 1
        have y2 := R.froz 2
        have y3 := R.froz 3
        go_wp2
        clear p0 p1 p2 p3 z0 z1 z2 z3 y0 y1 y2 y3
        have R9 := ((((R.put 0 (.string nm)).put 1 (.int .i64 bs)).put 2 (.slice A2 H.length c2)).put 3 (.slice A5 (L1.length + 1) c5))
        have hb9 := ((((hb.setCell (p := ⟨w.heap.size + 1, 0, none⟩) (by simp <;> omega) (.string nm)).setCell (p := ⟨w.heap.size + 1, 1, none⟩) (by simp <;> omega) (.int .i64 bs)).setCell (p := ⟨w.heap.size + 1, 2, none⟩) (by simp <;> omega) (.slice A2 H.length c2)).setCell (p := ⟨w.heap.size + 1, 3, none⟩) (by simp <;> omega) (.slice A5 (L1.length + 1) c5))
        have nS := own_not oS R (by decide)
        have nG := own_not oG R (by decide)
        have S9 := (row_off (row_off (row_off (row_off oS (p := ⟨w.heap.size + 1, 0, none⟩) nS (.string nm)) (p := ⟨w.heap.size + 1, 1, none⟩) nS (.int .i64 bs)) (p := ⟨w.heap.size + 1, 2, none⟩) nS (.slice A2 H.length c2)) (p := ⟨w.heap.size + 1, 3, none⟩) nS (.slice A5 (L1.length + 1) c5))
        have G9 := (row_off (row_off (row_off (row_off oG (p := ⟨w.heap.size + 1, 0, none⟩) nG (.string nm)) (p := ⟨w.heap.size + 1, 1, none⟩) nG (.int .i64 bs)) (p := ⟨w.heap.size + 1, 2, none⟩) nG (.slice A2 H.length c2)) (p := ⟨w.heap.size + 1, 3, none⟩) nG (.slice A5 (L1.length + 1) c5))
        simp only [List.set_cons_succ, List.set_cons_zero] at R9
        generalize (((w7.setCell ⟨w.heap.size + 1, 0, none⟩ (.string nm)).setCell ⟨w.heap.size + 1, 1, none⟩ (.int .i64 bs)).setCell ⟨w.heap.size + 1, 2, none⟩ (.slice A2 H.length c2)).setCell ⟨w.heap.size + 1, 3, none⟩ (.slice A5 (L1.length + 1) c5) = w9 at R9 hb9 S9 G9 ⊢
        have r0 := R9.cell (i := 0) rfl
        have r1 := R9.cell (i := 1) rfl
        have r2 := R9.cell (i := 2) rfl
        have r3 := R9.cell (i := 3) rfl
        exact bodyPost_ret (v := .tuple #[.agg #[.string nm, .int .i64 bs, .slice A2 H.length c2, .slice A5 (L1.length + 1) c5], .int .i64 L1.length]) (by simp [results, Try.results83, go_sem, r0, r1, r2, r3]) rfl (gr_ins hni.out h4 HPp.out HL1.out HL2.out S9 G9 hlw hw3 hb9)
      rw [if_neg hdk] at HX2 HC3
      have hlo : ∀ x, (Value.slice A4 (L1.length + 1) c4).ownBlock = some x → w3.heap.size ≤ x := fun x e => (o5b.lt x e).1
      go_upto_region 12 with (at_builtin; (refine wpList_app_grp rfl (.tmp 63) (.tmp 67) rfl w3.heap.size (.slice A4 (L1.length + 1) c4) (L1 ++ [⟨s, bs⟩]) rfl o5b _ _ L2 (d - L1.length) (by rw [HLL.out]; rfl) HC3 HX2 (by simp; omega) h35 ?_); intro A5 c5 w6 o6 hg6; have P6 := P5.grown hg6 (fun e => by have := hlo _ e.symm; omega); have q3 := P6.cell (i := 3) rfl; have g3 := P6.froz 3)
      have hq : ((L1 ++ [(⟨s, bs⟩ : Grp)]) ++ L2).length = L1.length + (L2.length + 1) := by simp
      have o6b : w6.ownsRow w3.heap.size 68 2 (.slice A5 (L1.length + (L2.length + 1)) c5) (L1.length + (L2.length + 1)) (gflat (L1 ++ [⟨s, bs⟩] ++ L2)) := by
        have h := o6
        unfold OwnG at h
        rw [hq] at h
        exact h
      have R6 := R5.grown hg6 (fun e => by have := hlo _ e.symm; omega)
      have oS6 := World.ownsRow.kept oS5 hg6 (own_apart oS5 o5b (by decide))
      have hb6 := below_row hb5 (Nat.le_refl _) hg6 (fun k e => by have := hlo _ e; omega)
      have hw2 : w.heap.size + 1 < w2.heap.size := by have := hz2; have := hR2; omega
      have P := P6.put 3 (.slice A5 (L1.length + (L2.length + 1)) c5)
      have R := R6.far (p := ⟨w2.heap.size, 3, none⟩) (by simp; omega) (.slice A5 (L1.length + (L2.length + 1)) c5)
      have oS := row_off oS6 (p := ⟨w2.heap.size, 3, none⟩) (own_not oS6 P6 (by decide)) (.slice A5 (L1.length + (L2.length + 1)) c5)
      have oG := row_off o6b (p := ⟨w2.heap.size, 3, none⟩) (own_not o6b P6 (by decide)) (.slice A5 (L1.length + (L2.length + 1)) c5)
      have hb := hb6.setCell (p := ⟨w2.heap.size, 3, none⟩) (by simp; omega) (.slice A5 (L1.length + (L2.length + 1)) c5)
      simp only [List.set_cons_succ, List.set_cons_zero] at P
      generalize w6.setCell ⟨w2.heap.size, 3, none⟩ (.slice A5 (L1.length + (L2.length + 1)) c5) = w7 at P R oS oG hb ⊢
      clear P6 R6 oS6 o6b hb6 P5 K5 R5 hb5 oS5 o5 o5b k3 HX2 q3 g3 o6 hg6
      have p0 := P.cell (i := 0) rfl
      have p1 := P.cell (i := 1) rfl
      have p2 := P.cell (i := 2) rfl
      have p3 := P.cell (i := 3) rfl
      have z0 := R.cell (i := 0) rfl
      have z1 := R.cell (i := 1) rfl
      have z2 := R.cell (i := 2) rfl
      have z3 := R.cell (i := 3) rfl
      have y0 := R.froz 0
      have y1 := R.froz 1
      have y2 := R.froz 2
      have y3 := R.froz 3
      go_wp2
      clear p0 p1 p2 p3 z0 z1 z2 z3 y0 y1 y2 y3
      have R9 := ((((R.put 0 (.string nm)).put 1 (.int .i64 bs)).put 2 (.slice A2 H.length c2)).put 3 (.slice A5 (L1.length + (L2.length + 1)) c5))
      have hb9 := ((((hb.setCell (p := ⟨w.heap.size + 1, 0, none⟩) (by simp <;> omega) (.string nm)).setCell (p := ⟨w.heap.size + 1, 1, none⟩) (by simp <;> omega) (.int .i64 bs)).setCell (p := ⟨w.heap.size + 1, 2, none⟩) (by simp <;> omega) (.slice A2 H.length c2)).setCell (p := ⟨w.heap.size + 1, 3, none⟩) (by simp <;> omega) (.slice A5 (L1.length + (L2.length + 1)) c5))
      have nS := own_not oS R (by decide)
      have nG := own_not oG R (by decide)
      have S9 := (row_off (row_off (row_off (row_off oS (p := ⟨w.heap.size + 1, 0, none⟩) nS (.string nm)) (p := ⟨w.heap.size + 1, 1, none⟩) nS (.int .i64 bs)) (p := ⟨w.heap.size + 1, 2, none⟩) nS (.slice A2 H.length c2)) (p := ⟨w.heap.size + 1, 3, none⟩) nS (.slice A5 (L1.length + (L2.length + 1)) c5))
      have G9 := (row_off (row_off (row_off (row_off oG (p := ⟨w.heap.size + 1, 0, none⟩) nG (.string nm)) (p := ⟨w.heap.size + 1, 1, none⟩) nG (.int .i64 bs)) (p := ⟨w.heap.size + 1, 2, none⟩) nG (.slice A2 H.length c2)) (p := ⟨w.heap.size + 1, 3, none⟩) nG (.slice A5 (L1.length + (L2.length + 1)) c5))
      simp only [List.set_cons_succ, List.set_cons_zero] at R9
      generalize (((w7.setCell ⟨w.heap.size + 1, 0, none⟩ (.string nm)).setCell ⟨w.heap.size + 1, 1, none⟩ (.int .i64 bs)).setCell ⟨w.heap.size + 1, 2, none⟩ (.slice A2 H.length c2)).setCell ⟨w.heap.size + 1, 3, none⟩ (.slice A5 (L1.length + (L2.length + 1)) c5) = w9 at R9 hb9 S9 G9 ⊢
      have r0 := R9.cell (i := 0) rfl
      have r1 := R9.cell (i := 1) rfl
      have r2 := R9.cell (i := 2) rfl
      have r3 := R9.cell (i := 3) rfl
      exact bodyPost_ret (v := .tuple #[.agg #[.string nm, .int .i64 bs, .slice A2 H.length c2, .slice A5 (L1.length + (L2.length + 1)) c5], .int .i64 L1.length]) (by simp [results, Try.results83, go_sem, r0, r1, r2, r3]) rfl (gr_ins hni.out h4 HPp.out HL1.out HL2.out S9 G9 hlw hw3 hb9)
    have hlt' : (k : Int) < (G.length : Int) := by omega
    obtain ⟨a, rfl, hab, c0, c1⟩ := (HB.out _ hb).at k hlt
    have hd1 : Op.bytesLess G[k].name.toList s.toList = false := PA.out hlt
    by_cases hn : G[k].name = s
    · have hi := Lib.hid (IG.out.2 ⟨hlt, hn⟩)
      have hd2 : (G[k].name.toList == s.toList) = true := str_beq_t hn
      clear hn
      go_wp2_with (fail)
      refine CP.out.mono ?_
      rintro e w2 ⟨A2, c2, B2, d2, rfl, oS, oG, hb2⟩
      have hlw := hb.size
      have hz2 := hb2.size
      have hR2 := R.lt
      replace K := K.below hb2 K.lt
      replace R := R.below hb2 R.lt
      replace hb := hb.trans (hb2.mono hb.size)
      clear hb2 CP k3 k0 k1 k2
      have P := Blk.fresh w2 29 [.string nm, .int .i64 bs, .slice A2 H.length c2, .slice B2 G.length d2]
      have hb3 := below_box w2 (.cells #[.string nm, .int .i64 bs, .slice A2 H.length c2, .slice B2 G.length d2] 29)
      replace P : Blk (w2.alloc (.cells #[.string nm, .int .i64 bs, .slice A2 H.length c2, .slice B2 G.length d2] 29)) w2.heap.size 29 [.string nm, .int .i64 bs, .slice A2 H.length c2, .slice B2 G.length d2] := P
      have hz3 : w2.heap.size < (w2.alloc (.cells #[.string nm, .int .i64 bs, .slice A2 H.length c2, .slice B2 G.length d2] 29)).heap.size := by simp
      go_upto_region 5 with (fail)
      generalize w2.alloc (.cells #[.string nm, .int .i64 bs, .slice A2 H.length c2, .slice B2 G.length d2] 29) = w3 at P hb3 hz3 ⊢
      replace K := K.below hb3 K.lt
      replace R := R.below hb3 R.lt
      replace hb := hb.trans (hb3.mono hb.size)
      replace oS := row_below oS hb3 (Nat.le_refl _)
      replace oG := row_below oG hb3 (Nat.le_refl _)
      clear hb3
      have k3 := K.cell (i := 3) rfl
      obtain ⟨a', e', _, c0, _⟩ := (HB.out _ hb).at k hlt
      cases e'
      have p0 := P.cell (i := 0) rfl
      have p1 := P.cell (i := 1) rfl
      have p2 := P.cell (i := 2) rfl
      have p3 := P.cell (i := 3) rfl
      have z0 := R.cell (i := 0) rfl
      have z1 := R.cell (i := 1) rfl
      have z2 := R.cell (i := 2) rfl
      have z3 := R.cell (i := 3) rfl
      have y0 := R.froz 0
      have y1 := R.froz 1
      have y2 := R.froz 2
      have y3 := R.froz 3
      go_wp2
      clear p0 p1 p2 p3 z0 z1 z2 z3 y0 y1 y2 y3 k3 c0 hd1 hd2
      have R9 := ((((R.put 0 (.string nm)).put 1 (.int .i64 bs)).put 2 (.slice A2 H.length c2)).put 3 (.slice B2 G.length d2))
      have hb9 := ((((hb.setCell (p := ⟨w.heap.size + 1, 0, none⟩) (by simp <;> omega) (.string nm)).setCell (p := ⟨w.heap.size + 1, 1, none⟩) (by simp <;> omega) (.int .i64 bs)).setCell (p := ⟨w.heap.size + 1, 2, none⟩) (by simp <;> omega) (.slice A2 H.length c2)).setCell (p := ⟨w.heap.size + 1, 3, none⟩) (by simp <;> omega) (.slice B2 G.length d2))
      have nS := own_not oS R (by decide)
      have nG := own_not oG R (by decide)
      have S9 := (row_off (row_off (row_off (row_off oS (p := ⟨w.heap.size + 1, 0, none⟩) nS (.string nm)) (p := ⟨w.heap.size + 1, 1, none⟩) nS (.int .i64 bs)) (p := ⟨w.heap.size + 1, 2, none⟩) nS (.slice A2 H.length c2)) (p := ⟨w.heap.size + 1, 3, none⟩) nS (.slice B2 G.length d2))
      have G9 := (row_off (row_off (row_off (row_off oG (p := ⟨w.heap.size + 1, 0, none⟩) nG (.string nm)) (p := ⟨w.heap.size + 1, 1, none⟩) nG (.int .i64 bs)) (p := ⟨w.heap.size + 1, 2, none⟩) nG (.slice A2 H.length c2)) (p := ⟨w.heap.size + 1, 3, none⟩) nG (.slice B2 G.length d2))
      simp only [List.set_cons_succ, List.set_cons_zero] at R9
      generalize (((w3.setCell ⟨w.heap.size + 1, 0, none⟩ (.string nm)).setCell ⟨w.heap.size + 1, 1, none⟩ (.int .i64 bs)).setCell ⟨w.heap.size + 1, 2, none⟩ (.slice A2 H.length c2)).setCell ⟨w.heap.size + 1, 3, none⟩ (.slice B2 G.length d2) = w9 at R9 hb9 S9 G9 ⊢
      have r0 := R9.cell (i := 0) rfl
      have r1 := R9.cell (i := 1) rfl
      have r2 := R9.cell (i := 2) rfl
      have r3 := R9.cell (i := 3) rfl
      exact bodyPost_ret (v := .tuple #[.agg #[.string nm, .int .i64 bs, .slice A2 H.length c2, .slice B2 G.length d2], .int .i64 k]) (by simp [results, Try.results83, go_sem, r0, r1, r2, r3]) rfl (gr_found hi.out HPp.out S9 G9 hlw hb9)
    have hni := Lib.hid (show isG G s = false by
      rcases Bool.eq_false_or_eq_true (isG G s) with h | h
      · exact absurd (IG.out.1 h).2 hn
      · exact h)
    have hd2 : (G[k].name.toList == s.toList) = false := str_beq_f hn
    clear hn
    go_wp2_with (fail)
    refine CP.out.mono ?_
    rintro e w2 ⟨A2, c2, B2, d2, rfl, oS, oG, hb2⟩
    have hlw := hb.size
    have hz2 := hb2.size
    have hR2 := R.lt
    replace K := K.below hb2 K.lt
    replace R := R.below hb2 R.lt
    replace hb := hb.trans (hb2.mono hb.size)
    clear hb2 CP k3 k0 k1 k2
    have P := Blk.fresh w2 29 [.string nm, .int .i64 bs, .slice A2 H.length c2, .slice B2 G.length d2]
    have hb3 := below_box w2 (.cells #[.string nm, .int .i64 bs, .slice A2 H.length c2, .slice B2 G.length d2] 29)
    replace P : Blk (w2.alloc (.cells #[.string nm, .int .i64 bs, .slice A2 H.length c2, .slice B2 G.length d2] 29)) w2.heap.size 29 [.string nm, .int .i64 bs, .slice A2 H.length c2, .slice B2 G.length d2] := P
    have hz3 : w2.heap.size < (w2.alloc (.cells #[.string nm, .int .i64 bs, .slice A2 H.length c2, .slice B2 G.length d2] 29)).heap.size := by simp
    go_upto_region 5 with (fail)
    generalize w2.alloc (.cells #[.string nm, .int .i64 bs, .slice A2 H.length c2, .slice B2 G.length d2] 29) = w3 at P hb3 hz3 ⊢
    replace K := K.below hb3 K.lt
    replace R := R.below hb3 R.lt
    replace hb := hb.trans (hb3.mono hb.size)
    replace oS := row_below oS hb3 (Nat.le_refl _)
    replace oG := row_below oG hb3 (Nat.le_refl _)
    clear hb3
    have k3 := K.cell (i := 3) rfl
    obtain ⟨a', e', _, c0, _⟩ := (HB.out _ hb).at k hlt
    cases e'
    have p0 := P.cell (i := 0) rfl
    have p1 := P.cell (i := 1) rfl
    have p2 := P.cell (i := 2) rfl
    have p3 := P.cell (i := 3) rfl
    have hB3 := HB.out _ hb
    by_cases h4 : 4 ≤ G.length
    · have h4' : (4 : Int) ≤ (G.length : Int) := by omega
      have z0 := R.cell (i := 0) rfl
      have z1 := R.cell (i := 1) rfl
      have z2 := R.cell (i := 2) rfl
      have z3 := R.cell (i := 3) rfl
      have y0 := R.froz 0
      have y1 := R.froz 1
      have y2 := R.froz 2
      have y3 := R.froz 3
      go_wp2
      clear p0 p1 p2 p3 z0 z1 z2 z3 y0 y1 y2 y3 k3
      have R9 := ((((R.put 0 (.string nm)).put 1 (.int .i64 bs)).put 2 (.slice A2 H.length c2)).put 3 (.slice B2 G.length d2))
      have hb9 := ((((hb.setCell (p := ⟨w.heap.size + 1, 0, none⟩) (by simp <;> omega) (.string nm)).setCell (p := ⟨w.heap.size + 1, 1, none⟩) (by simp <;> omega) (.int .i64 bs)).setCell (p := ⟨w.heap.size + 1, 2, none⟩) (by simp <;> omega) (.slice A2 H.length c2)).setCell (p := ⟨w.heap.size + 1, 3, none⟩) (by simp <;> omega) (.slice B2 G.length d2))
      have nS := own_not oS R (by decide)
      have nG := own_not oG R (by decide)
      have S9 := (row_off (row_off (row_off (row_off oS (p := ⟨w.heap.size + 1, 0, none⟩) nS (.string nm)) (p := ⟨w.heap.size + 1, 1, none⟩) nS (.int .i64 bs)) (p := ⟨w.heap.size + 1, 2, none⟩) nS (.slice A2 H.length c2)) (p := ⟨w.heap.size + 1, 3, none⟩) nS (.slice B2 G.length d2))
      have G9 := (row_off (row_off (row_off (row_off oG (p := ⟨w.heap.size + 1, 0, none⟩) nG (.string nm)) (p := ⟨w.heap.size + 1, 1, none⟩) nG (.int .i64 bs)) (p := ⟨w.heap.size + 1, 2, none⟩) nG (.slice A2 H.length c2)) (p := ⟨w.heap.size + 1, 3, none⟩) nG (.slice B2 G.length d2))
      simp only [List.set_cons_succ, List.set_cons_zero] at R9
      generalize (((w3.setCell ⟨w.heap.size + 1, 0, none⟩ (.string nm)).setCell ⟨w.heap.size + 1, 1, none⟩ (.int .i64 bs)).setCell ⟨w.heap.size + 1, 2, none⟩ (.slice A2 H.length c2)).setCell ⟨w.heap.size + 1, 3, none⟩ (.slice B2 G.length d2) = w9 at R9 hb9 S9 G9 ⊢
      have r0 := R9.cell (i := 0) rfl
      have r1 := R9.cell (i := 1) rfl
      have r2 := R9.cell (i := 2) rfl
      have r3 := R9.cell (i := 3) rfl
      exact bodyPost_ret (v := .tuple #[.agg #[.string nm, .int .i64 bs, .slice A2 H.length c2, .slice B2 G.length d2], .int .i64 (-1)]) (by simp [results, Try.results83, go_sem, r0, r1, r2, r3]) rfl (gr_full hni.out h4 S9 G9 hlw hb9)
    have h4' : ¬ (4 : Int) ≤ (G.length : Int) := by omega
    obtain ⟨L1, HL1⟩ : ∃ L, Hid (G.take k = L) := ⟨_, Lib.hid rfl⟩
    obtain ⟨L2, HL2⟩ : ∃ L, Hid (G.drop k = L) := ⟨_, Lib.hid rfl⟩
    have hl1 : L1.length = k := by rw [← HL1.out]; simp; omega
    have hl2 : L2.length = G.length - k := by rw [← HL2.out]; simp
    have hl23 : L1.length + L2.length ≤ 4 := by omega
    have hM1 := fun W (h : Below w.heap.size w W) => (show Grs W W.heap.size _ L1 from HL1.out ▸ grs_take (HB.out W h) k)
    have hM2 := fun W (h : Below w.heap.size w W) => (show Grs W W.heap.size _ L2 from HL2.out ▸ grs_drop (HB.out W h) hpl hd.le)
    have HM1 := Lib.hid hM1
    have HM2 := Lib.hid hM2
    have HC2 := Lib.hid (grs_nil_cap hd hpl)
    clear hM1 hM2
    subst hl1
    have HLL := Lib.hid hl2
    clear hl2
    have k3a := (K.alloc (.cells #[] 68)).cell (i := 3) rfl
    have ow := own_empty w3 68 2 (by decide)
    have hbe := hb.alloc hb.size (.cells #[] 68)
    have hdl := hd.le
    have hkd : (L1.length : Int) ≤ (d : Int) := by omega
    have hkg : (L1.length : Int) ≤ (G.length : Int) := by omega
    go_upto_region 10 with (at_builtin; (refine wpList_app_grp rfl (.tmp 50) (.tmp 54) rfl w3.heap.size (.slice (some ⟨w3.heap.size, 0, none⟩) 0 0) [] rfl ow _ _ L1 d rfl hd.nil (HM1.out _ hbe) (by simp; omega) (by simp) ?_); intro A3 c3 w4 o4 hg4)
    rw [List.nil_append] at o4
    have hrl := R.lt
    have P4 := (P.alloc (.cells #[] 68)).grown hg4 (by simp [Value.ownBlock] <;> omega)
    have K4 := (K.alloc (.cells #[] 68)).grown hg4 (by simp [Value.ownBlock] <;> omega)
    have R4 := (R.alloc (.cells #[] 68)).grown hg4 (by simp [Value.ownBlock] <;> omega)
    have hb4 := below_row hbe (Nat.le_refl _) hg4 (fun k e => by have := hb.size; simp [Value.ownBlock] at e; omega)
    have oSa := World.ownsRow.alloc oS (.cells #[] 68)
    have oS4 := World.ownsRow.kept oSa hg4 (own_apart oSa ow (by decide))
    have hw3 := hb.size
    clear p0 p1 p2 p3 k3 k3a ow hbe K R P oSa oS oG hb hB3
    have k1 := K4.cell (i := 1) rfl
    have o4a : OwnG (w4.alloc (.cells #[.string s, .int .i64 bs] 68)) w3.heap.size (.slice A3 L1.length c3) L1 := World.ownsRow.alloc o4 _
    have hX := grs_one w4 ⟨s, bs⟩ 68
    replace hX : Grs (w4.alloc (.cells #[.string s, .int .i64 bs] 68)) (w4.heap.size + 1) (some ⟨w4.heap.size, 0, none⟩) [⟨s, bs⟩] := hX
    have h34 : w3.heap.size ≤ w4.heap.size := by have := hg4.size; simp at this; omega
    go_upto_region 11 with (at_builtin; (refine wpList_app_grp rfl (.tmp 56) (.tmp 61) rfl w3.heap.size (.slice A3 L1.length c3) L1 rfl o4a (w4.heap.size + 1) (some ⟨w4.heap.size, 0, none⟩) [⟨s, bs⟩] 1 rfl (fun e => by cases e) hX (by simp; omega) (by simp; omega) ?_); intro A4 c4 w5 o5 hg5)
    have hlo : ∀ x, (Value.slice A3 L1.length c3).ownBlock = some x → w3.heap.size ≤ x := fun x e => (o4.lt x e).1
    have P5 := (P4.alloc (.cells #[.string s, .int .i64 bs] 68)).grown hg5 (fun e => by have := hlo _ e.symm; omega)
    have K5 := (K4.alloc (.cells #[.string s, .int .i64 bs] 68)).grown hg5 (fun e => by have := hlo _ e.symm; omega)
    have R5 := (R4.alloc (.cells #[.string s, .int .i64 bs] 68)).grown hg5 (fun e => by have := hlo _ e.symm; omega)
    have hb5 := below_row (hb4.alloc hb4.size (.cells #[.string s, .int .i64 bs] 68)) (Nat.le_refl _) hg5 (fun k e => by have := hlo _ e; omega)
    have oSa := World.ownsRow.alloc oS4 (.cells #[.string s, .int .i64 bs] 68)
    have oS5 := World.ownsRow.kept oSa hg5 (own_apart oSa o4a (by decide))
    have h35 : w3.heap.size ≤ w5.heap.size := by have := hg5.size; simp at this; omega
    clear k1 o4a hX P4 K4 R4 hb4 oSa oS4 o4 hlo
    have ql : (L1 ++ [(⟨s, bs⟩ : Grp)]).length = L1.length + 1 := by simp
    have o5b : OwnG w5 w3.heap.size (.slice A4 (L1.length + 1) c4) (L1 ++ [⟨s, bs⟩]) := by rw [ql] at o5; exact o5
    have k3 := K5.cell (i := 3) rfl
    have HX2 := HM2.out _ hb5
    have HC3 := HC2.out
    have hne : ¬ d = L1.length := by omega
    rw [if_neg hne] at HX2
    replace HX2 : Grs w5 w5.heap.size (some (a.add (L1.length * 2))) L2 := HX2
    replace HC3 : some (a.add (L1.length * 2)) = none → d - L1.length = 0 := fun e => by cases e
    have hlo : ∀ x, (Value.slice A4 (L1.length + 1) c4).ownBlock = some x → w3.heap.size ≤ x := fun x e => (o5b.lt x e).1
    go_upto_region 12 with (at_builtin; (refine wpList_app_grp rfl (.tmp 63) (.tmp 67) rfl w3.heap.size (.slice A4 (L1.length + 1) c4) (L1 ++ [⟨s, bs⟩]) rfl o5b _ _ L2 (d - L1.length) (by rw [HLL.out]; rfl) HC3 HX2 (by simp; omega) h35 ?_); intro A5 c5 w6 o6 hg6; have P6 := P5.grown hg6 (fun e => by have := hlo _ e.symm; omega); have q3 := P6.cell (i := 3) rfl; have g3 := P6.froz 3)
    have hq : ((L1 ++ [(⟨s, bs⟩ : Grp)]) ++ L2).length = L1.length + (L2.length + 1) := by simp
    have o6b : w6.ownsRow w3.heap.size 68 2 (.slice A5 (L1.length + (L2.length + 1)) c5) (L1.length + (L2.length + 1)) (gflat (L1 ++ [⟨s, bs⟩] ++ L2)) := by
      have h := o6
      unfold OwnG at h
      rw [hq] at h
      exact h
    have R6 := R5.grown hg6 (fun e => by have := hlo _ e.symm; omega)
    have oS6 := World.ownsRow.kept oS5 hg6 (own_apart oS5 o5b (by decide))
    have hb6 := below_row hb5 (Nat.le_refl _) hg6 (fun k e => by have := hlo _ e; omega)
    have hw2 : w.heap.size + 1 < w2.heap.size := by have := hz2; have := hR2; omega
    have P := P6.put 3 (.slice A5 (L1.length + (L2.length + 1)) c5)
    have R := R6.far (p := ⟨w2.heap.size, 3, none⟩) (by simp; omega) (.slice A5 (L1.length + (L2.length + 1)) c5)
    have oS := row_off oS6 (p := ⟨w2.heap.size, 3, none⟩) (own_not oS6 P6 (by decide)) (.slice A5 (L1.length + (L2.length + 1)) c5)
    have oG := row_off o6b (p := ⟨w2.heap.size, 3, none⟩) (own_not o6b P6 (by decide)) (.slice A5 (L1.length + (L2.length + 1)) c5)
    have hb := hb6.setCell (p := ⟨w2.heap.size, 3, none⟩) (by simp; omega) (.slice A5 (L1.length + (L2.length + 1)) c5)
    simp only [List.set_cons_succ, List.set_cons_zero] at P
    generalize w6.setCell ⟨w2.heap.size, 3, none⟩ (.slice A5 (L1.length + (L2.length + 1)) c5) = w7 at P R oS oG hb ⊢
    clear P6 R6 oS6 o6b hb6 P5 K5 R5 hb5 oS5 o5 o5b k3 HX2 q3 g3 o6 hg6
    have p0 := P.cell (i := 0) rfl
    have p1 := P.cell (i := 1) rfl
    have p2 := P.cell (i := 2) rfl
    have p3 := P.cell (i := 3) rfl
    have z0 := R.cell (i := 0) rfl
    have z1 := R.cell (i := 1) rfl
    have z2 := R.cell (i := 2) rfl
    have z3 := R.cell (i := 3) rfl
    have y0 := R.froz 0
    have y1 := R.froz 1
    have y2 := R.froz 2
    have y3 := R.froz 3
    go_wp2
    clear p0 p1 p2 p3 z0 z1 z2 z3 y0 y1 y2 y3
    have R9 := ((((R.put 0 (.string nm)).put 1 (.int .i64 bs)).put 2 (.slice A2 H.length c2)).put 3 (.slice A5 (L1.length + (L2.length + 1)) c5))
    have hb9 := ((((hb.setCell (p := ⟨w.heap.size + 1, 0, none⟩) (by simp <;> omega) (.string nm)).setCell (p := ⟨w.heap.size + 1, 1, none⟩) (by simp <;> omega) (.int .i64 bs)).setCell (p := ⟨w.heap.size + 1, 2, none⟩) (by simp <;> omega) (.slice A2 H.length c2)).setCell (p := ⟨w.heap.size + 1, 3, none⟩) (by simp <;> omega) (.slice A5 (L1.length + (L2.length + 1)) c5))
    have nS := own_not oS R (by decide)
    have nG := own_not oG R (by decide)
    have S9 := (row_off (row_off (row_off (row_off oS (p := ⟨w.heap.size + 1, 0, none⟩) nS (.string nm)) (p := ⟨w.heap.size + 1, 1, none⟩) nS (.int .i64 bs)) (p := ⟨w.heap.size + 1, 2, none⟩) nS (.slice A2 H.length c2)) (p := ⟨w.heap.size + 1, 3, none⟩) nS (.slice A5 (L1.length + (L2.length + 1)) c5))
    have G9 := (row_off (row_off (row_off (row_off oG (p := ⟨w.heap.size + 1, 0, none⟩) nG (.string nm)) (p := ⟨w.heap.size + 1, 1, none⟩) nG (.int .i64 bs)) (p := ⟨w.heap.size + 1, 2, none⟩) nG (.slice A2 H.length c2)) (p := ⟨w.heap.size + 1, 3, none⟩) nG (.slice A5 (L1.length + (L2.length + 1)) c5))
    simp only [List.set_cons_succ, List.set_cons_zero] at R9
    generalize (((w7.setCell ⟨w.heap.size + 1, 0, none⟩ (.string nm)).setCell ⟨w.heap.size + 1, 1, none⟩ (.int .i64 bs)).setCell ⟨w.heap.size + 1, 2, none⟩ (.slice A2 H.length c2)).setCell ⟨w.heap.size + 1, 3, none⟩ (.slice A5 (L1.length + (L2.length + 1)) c5) = w9 at R9 hb9 S9 G9 ⊢
    have r0 := R9.cell (i := 0) rfl
    have r1 := R9.cell (i := 1) rfl
    have r2 := R9.cell (i := 2) rfl
    have r3 := R9.cell (i := 3) rfl
    exact bodyPost_ret (v := .tuple #[.agg #[.string nm, .int .i64 bs, .slice A2 H.length c2, .slice A5 (L1.length + (L2.length + 1)) c5], .int .i64 L1.length]) (by simp [results, Try.results83, go_sem, r0, r1, r2, r3]) rfl (gr_ins hni.out h4 HPp.out HL1.out HL2.out S9 G9 hlw hw3 hb9)
end Go.Proofs.Ytkimieeabmjfgaa

namespace Go.Proofs.Ytkimieeabmjfgaa
open Go.RowKit
set_option linter.unusedVariables false
set_option maxRecDepth 1000000

set_option maxHeartbeats 8000000 in
theorem specTopicRight_any (t : Tpc) (A : Option Addr) (c : Nat) (B : Option Addr) (d : Nat) (w : World) (hf : t.fits) (hA : Strs w w.heap.size A t.held) (hB : Grs w w.heap.size B t.groups) :
    Calls Try.prog 58 #[topV t.name t.base (.slice A t.held.length c) (.slice B t.groups.length d)] w fun e w' => e = .returned (.bool (topB t)) ∧ Below w.heap.size w w' := by
  obtain ⟨f0, f1, f2, f3⟩ := hf
  have hn := hA.1
  have hm := hB.1
  have hn' := hn
  unfold maxLen at hn' hm
  have F0 : Hid (∀ h : ¬ topOK t, topB t = false) := Lib.hid topB_false
  have F1 : Hid (∀ h : topOK t, topB t = true) := Lib.hid topB_true
  have OK : Hid (∀ P : topOK t → Prop, True) := Lib.hid fun _ => trivial
  obtain ⟨nm, bs, H, G⟩ := t
  simp only at f0 f1 f2 f3 hA hB hn hm hn' F0 F1 OK ⊢
  generalize topB ⟨nm, bs, H, G⟩ = R at F0 F1 ⊢
  have hK := Blk.fresh w 29 [.string nm, .int .i64 bs, .slice A H.length c, .slice B G.length d]
  have hb0 := below_box w (.cells #[.string nm, .int .i64 bs, .slice A H.length c, .slice B G.length d] 29)
  simp only [List.toArray] at hK
  rcases Bool.eq_false_or_eq_true (nameB nm) with hN | hN
  rotate_left
  · have NR := specName_b hN f0
    have HR := Lib.hid (F0.out fun h => by have := h.1; rw [hN] at this; cases this)
    go_enter Try.func58, Try.ntmps58
    go_wp2_with (go_at_call 82; refine (NR _).mono ?_; rintro e w' ⟨rfl, rfl⟩)
    go_ret
    exact ⟨by rw [HR.out]; rfl, hb0⟩
  have NR := specName_b hN f0
  rcases Bool.eq_false_or_eq_true (inB bs 0 1000000000) with hI | hI
  rotate_left
  · have IS := is3 hI
    have HR := Lib.hid (F0.out fun h => by have := h.2.1; rw [hI] at this; cases this)
    go_enter Try.func58, Try.ntmps58
    go_wp2_with (first | (go_at_call 82; refine (NR _).mono ?_; rintro e w' ⟨rfl, rfl⟩) | (go_at_call 40; refine (IS _).mono ?_; rintro e w' ⟨rfl, rfl⟩))
    go_ret
    exact ⟨by rw [HR.out]; rfl, hb0⟩
  have IS := is3 hI
  have hbs := inB_true hI
  by_cases h3 : H.length ≤ 20
  rotate_left
  · have HR := Lib.hid (F0.out fun h => h3 h.2.2.1)
    go_enter Try.func58, Try.ntmps58
    go_wp2_with (first | (go_at_call 82; refine (NR _).mono ?_; rintro e w' ⟨rfl, rfl⟩) | (go_at_call 40; refine (IS _).mono ?_; rintro e w' ⟨rfl, rfl⟩))
    go_ret
    exact ⟨by rw [HR.out]; rfl, hb0⟩
  by_cases h4 : G.length ≤ 4
  rotate_left
  · have HR := Lib.hid (F0.out fun h => h4 h.2.2.2.2.1)
    go_enter Try.func58, Try.ntmps58
    go_wp2_with (first | (go_at_call 82; refine (NR _).mono ?_; rintro e w' ⟨rfl, rfl⟩) | (go_at_call 40; refine (IS _).mono ?_; rintro e w' ⟨rfl, rfl⟩))
    go_ret
    exact ⟨by rw [HR.out]; rfl, hb0⟩
  have EN := Lib.hid (l07End_any nm bs A H.length c (.slice B G.length d) (by omega) hbs.1 hbs.2 rfl)
  by_cases h5 : bs + H.length ≤ 1000000000
  rotate_left
  · have HR := Lib.hid (F0.out fun h => h5 h.2.2.2.2.2.1)
    go_enter Try.func58, Try.ntmps58
    go_wp2_with (first | (go_at_call 82; refine (NR _).mono ?_; rintro e w' ⟨rfl, rfl⟩) | (go_at_call 40; refine (IS _).mono ?_; rintro e w' ⟨rfl, rfl⟩) | (go_at_call 95; refine (EN.out _).mono ?_; rintro e w1 ⟨rfl, hb1⟩))
    go_ret
    exact ⟨by rw [HR.out]; rfl, hb0.trans (hb1.mono hb0.size)⟩
  go_enter Try.func58, Try.ntmps58
  go_wp2_with (first | (go_at_call 82; refine (NR _).mono ?_; rintro e w' ⟨rfl, rfl⟩) | (go_at_call 40; refine (IS _).mono ?_; rintro e w' ⟨rfl, rfl⟩) | (go_at_call 95; refine (EN.out _).mono ?_; rintro e w1 ⟨rfl, hb1⟩))
  have hK1 := hK.below hb1 hK.lt
  have hw1 := hb0.trans (hb1.mono hb0.size)
  clear hK hb0 hb1
  go_loopw [3] (fun i wr => ∃ k : Nat, k ≤ H.length ∧ i = .int .i64 k ∧ (∀ j (h : j < H.length), j < k → inB H[j].size 1 40 = true) ∧ Blk wr w.heap.size 29 [.string nm, .int .i64 bs, .slice A H.length c, .slice B G.length d] ∧ Below w.heap.size w wr) (fun i _ => H.length - (intOf i).toNat)
  case atStart => exact ⟨0, by omega, rfl, fun j _ h => by omega, hK1, hw1⟩
  case round =>
    obtain ⟨k, hk, rfl, hok, hK2, hw2⟩ := hrel
    have b2 := hK2.cell (i := 2) rfl
    by_cases hlt : k < H.length
    · obtain ⟨a, rfl, hab, c0⟩ := (hA.below hw2 (Nat.le_refl _)).2 k hlt
      have hlt' : (k : Int) < (H.length : Int) := by omega
      rcases Bool.eq_false_or_eq_true (inB H[k].size 1 40) with hT | hT
      · have TX := l07Text_b hT (f2 _ (List.getElem_mem hlt))
        go_wp2_with (go_at_call 100; refine (TX _).mono ?_; rintro e w' ⟨rfl, rfl⟩)
        refine ⟨⟨k + 1, by omega, by go_num, fun j hj hjk => ?_, hK2, hw2⟩, by simp [intOf]; omega⟩
        by_cases e : j = k
        · subst e; exact hT
        · exact hok j hj (by omega)
      · have TX := l07Text_b hT (f2 _ (List.getElem_mem hlt))
        have HR := Lib.hid (F0.out fun h => by have := h.2.2.2.1 k hlt; rw [hT] at this; cases this)
        go_wp2_with (go_at_call 100; refine (TX _).mono ?_; rintro e w' ⟨rfl, rfl⟩)
        go_ret
        exact ⟨by rw [HR.out]; rfl, hw2⟩
    · obtain rfl : k = H.length := by omega
      have HH := Lib.hid (fun j (h : j < H.length) => hok j h h)
      have b3 := hK2.cell (i := 3) rfl
      clear hok hK1 hw1
      go_wp2
      go_loopw [4, 5] (fun i _ wr => ∃ k : Nat, k ≤ G.length ∧ i = .int .i64 k ∧ (∀ j (h : j < G.length), j < k → grpIn ⟨nm, bs, H, G⟩ j h) ∧ Blk wr w.heap.size 29 [.string nm, .int .i64 bs, .slice A H.length c, .slice B G.length d] ∧ Below w.heap.size w wr) (fun i _ _ => G.length - (intOf i).toNat)
      case atStart => exact ⟨0, by omega, rfl, fun j _ h => by omega, hK2, hw2⟩
      case round =>
        obtain ⟨k, hk, rfl, hok, hK3, hw3⟩ := hrel
        clear b2 b3 hK2 hw2
        have b3 := hK3.cell (i := 3) rfl
        by_cases hlt : k < G.length
        rotate_left
        · obtain rfl : k = G.length := by omega
          have HR := Lib.hid (F1.out ⟨hN, hI, h3, HH.out, h4, h5, fun i h => hok i h h⟩)
          go_wp2
          go_ret
          exact ⟨by rw [HR.out]; rfl, hw3⟩
        obtain ⟨a, rfl, hab, c0, c1⟩ := (hB.below hw3 (Nat.le_refl _)).at k hlt
        have hlt' : (k : Int) < (G.length : Int) := by omega
        have hG := Blk.fresh wr 68 [.string G[k].name, .int .i64 G[k].acked]
        have hK4 := hK3.alloc (.cells #[.string G[k].name, .int .i64 G[k].acked] 68)
        have hw4 := hw3.alloc hw3.size (.cells #[.string G[k].name, .int .i64 G[k].acked] 68)
        have hp : ∀ q, (h : q + 1 = k) → (wr.alloc (.cells #[.string G[k].name, .int .i64 G[k].acked] 68)).cell? (a.add (q * 2)) = some (.string (G[q]'(by omega)).name) := by
          intro q h
          obtain ⟨a', e, _, h2, _⟩ := (hB.below hw4 (Nat.le_refl _)).at q (by omega)
          cases e
          exact h2
        simp only [List.toArray] at hG
        go_wp2
        generalize wr.alloc (.cells #[.string G[k].name, .int .i64 G[k].acked] 68) = w3 at hG hK4 hw4 hp ⊢
        clear c0 c1 b3 hK3
        have n1 : G[k].name.size ≤ maxLen := (f3 _ (List.getElem_mem hlt)).1
        obtain ⟨I, f, hI', g0, gk, gc, ge⟩ := class_grown w3
        have x0 := fun s => kept_cell (gk s) (hG.cell (i := 0) rfl)
        have x1 := fun s => kept_cell (gk s) (hG.cell (i := 1) rfl)
        have y0 := fun s => kept_cell (gk s) (hK4.cell (i := 0) rfl)
        have y1 := fun s => kept_cell (gk s) (hK4.cell (i := 1) rfl)
        have y2 := fun s => kept_cell (gk s) (hK4.cell (i := 2) rfl)
        have y3 := fun s => kept_cell (gk s) (hK4.cell (i := 3) rfl)
        have HW : Hid (∀ W, Below w3.heap.size w3 W → Blk W w.heap.size 29 [.string nm, .int .i64 bs, .slice A H.length c, .slice (some a) G.length d] ∧ Below w.heap.size w W) := Lib.hid fun W h => ⟨hK4.below h hK4.lt, hw4.trans (h.mono hw4.size)⟩
        have HOK := Lib.hid hok
        have HB := Lib.hid (fun h : ¬ grpIn ⟨nm, bs, H, G⟩ k hlt => F0.out fun q => h (q.2.2.2.2.2.2 k hlt))
        clear hok hK4 hG hw4
        rcases Bool.eq_false_or_eq_true (nameB G[k].name) with hN2 | hN2
        rotate_left
        · have NG := Lib.hid (fun W => bl (specName_b hN2 n1 W))
          have HR := Lib.hid (HB.out fun h => by have := h.1; rw [hN2] at this; cases this)
          refine wp_region_kept f (by kernel_rfl) (by kernel_rfl) g0 ?_
          repeat (first
            | go_big_quiet_skip
            | (go_big_quiet_want; go_big_quiet_op; first
              | go_big_quiet_on
              | (apply Exists.intro; refine ⟨fun s => ?_, ?_⟩; (go_at_call 82; (with_reducible refine (NG.out _).mono ?_); rintro e w4 ⟨rfl, hb4⟩; exact ⟨rfl, gc _ _ hb4⟩); go_big_quiet_on)
              | (apply Exists.intro; refine ⟨fun s => ?_, ?_⟩; (go_at_call 95; (with_reducible refine (EN.out _).mono ?_); rintro e w4 ⟨rfl, hb4⟩; exact ⟨rfl, gc _ _ hb4⟩); go_big_quiet_on)
              | (apply Exists.intro; refine ⟨fun s => ?_, ?_⟩; (go_at_call 40; (with_reducible refine (IG.out _).mono ?_); rintro e w4 ⟨rfl, hb4⟩; exact ⟨rfl, gc _ _ hb4⟩); go_big_quiet_on)))
          refine wpQuiet_nil ?_
          intro w5 h5
          have hb5 := ge _ h5
          go_wp2
          go_ret
          exact ⟨by rw [HR.out]; rfl, (HW.out _ hb5).2⟩
        have NG := Lib.hid (fun W => bl (specName_b hN2 n1 W))
        by_cases hk0 : 0 < k
        · obtain ⟨q, hq⟩ : ∃ q, q + 1 = k := ⟨k - 1, by omega⟩
          have p0 := fun s => kept_cell (gk s) (hp q hq)
          have hd : decide ((0 : Int) < (k : Int)) = true := by simp; omega
          have e1 : IntKind.i64.wrap ((k : Int) - 1) = (q : Int) := by rw [IntWalk.i64_in _ (by omega)]; omega
          have e2 : (q : Int) < (G.length : Int) := by omega
          have hql : q < G.length := by omega
          clear hp
          rcases Bool.eq_false_or_eq_true (Op.bytesLess G[q].name.toList G[k].name.toList) with hl | hl
          rotate_left
          · have HR := Lib.hid (HB.out (not_grp_less hq hlt hql hl))
            refine wp_region_kept f (by kernel_rfl) (by kernel_rfl) g0 ?_
            repeat (first
              | go_big_quiet_skip
              | (go_big_quiet_want; go_big_quiet_op; first
                | go_big_quiet_on
                | (apply Exists.intro; refine ⟨fun s => ?_, ?_⟩; (go_at_call 82; (with_reducible refine (NG.out _).mono ?_); rintro e w4 ⟨rfl, hb4⟩; exact ⟨rfl, gc _ _ hb4⟩); go_big_quiet_on)
                | (apply Exists.intro; refine ⟨fun s => ?_, ?_⟩; (go_at_call 95; (with_reducible refine (EN.out _).mono ?_); rintro e w4 ⟨rfl, hb4⟩; exact ⟨rfl, gc _ _ hb4⟩); go_big_quiet_on)
                | (apply Exists.intro; refine ⟨fun s => ?_, ?_⟩; (go_at_call 40; (with_reducible refine (IG.out _).mono ?_); rintro e w4 ⟨rfl, hb4⟩; exact ⟨rfl, gc _ _ hb4⟩); go_big_quiet_on)))
            refine wpQuiet_nil ?_
            intro w5 h5
            have hb5 := ge _ h5
            go_wp2
            go_ret
            exact ⟨by rw [HR.out]; rfl, (HW.out _ hb5).2⟩
          have HL := Lib.hid (grp_less (t := ⟨nm, bs, H, G⟩) hq hlt hql hl)
          rcases Bool.eq_false_or_eq_true (inB G[k].acked bs (bs + H.length)) with hI2 | hI2
          · have IG := Lib.hid (fun W => bl (is3 hI2 W))
            refine wp_region_kept f (by kernel_rfl) (by kernel_rfl) g0 ?_
            repeat (first
              | go_big_quiet_skip
              | (go_big_quiet_want; go_big_quiet_op; first
                | go_big_quiet_on
                | (apply Exists.intro; refine ⟨fun s => ?_, ?_⟩; (go_at_call 82; (with_reducible refine (NG.out _).mono ?_); rintro e w4 ⟨rfl, hb4⟩; exact ⟨rfl, gc _ _ hb4⟩); go_big_quiet_on)
                | (apply Exists.intro; refine ⟨fun s => ?_, ?_⟩; (go_at_call 95; (with_reducible refine (EN.out _).mono ?_); rintro e w4 ⟨rfl, hb4⟩; exact ⟨rfl, gc _ _ hb4⟩); go_big_quiet_on)
                | (apply Exists.intro; refine ⟨fun s => ?_, ?_⟩; (go_at_call 40; (with_reducible refine (IG.out _).mono ?_); rintro e w4 ⟨rfl, hb4⟩; exact ⟨rfl, gc _ _ hb4⟩); go_big_quiet_on)))
            refine wpQuiet_nil ?_
            intro w5 h5
            have hb5 := ge _ h5
            go_wp2
            refine ⟨⟨k + 1, by omega, by go_num, fun j hj hjk => ?_, (HW.out _ hb5).1, (HW.out _ hb5).2⟩, by simp [intOf]; omega⟩
            by_cases e : j = k
            · subst e
              exact ⟨hN2, hI2, HL.out⟩
            · exact HOK.out j hj (by omega)
          · have IG := Lib.hid (fun W => bl (is3 hI2 W))
            have HR := Lib.hid (HB.out fun h => by have := h.2.1; rw [hI2] at this; cases this)
            refine wp_region_kept f (by kernel_rfl) (by kernel_rfl) g0 ?_
            repeat (first
              | go_big_quiet_skip
              | (go_big_quiet_want; go_big_quiet_op; first
                | go_big_quiet_on
                | (apply Exists.intro; refine ⟨fun s => ?_, ?_⟩; (go_at_call 82; (with_reducible refine (NG.out _).mono ?_); rintro e w4 ⟨rfl, hb4⟩; exact ⟨rfl, gc _ _ hb4⟩); go_big_quiet_on)
                | (apply Exists.intro; refine ⟨fun s => ?_, ?_⟩; (go_at_call 95; (with_reducible refine (EN.out _).mono ?_); rintro e w4 ⟨rfl, hb4⟩; exact ⟨rfl, gc _ _ hb4⟩); go_big_quiet_on)
                | (apply Exists.intro; refine ⟨fun s => ?_, ?_⟩; (go_at_call 40; (with_reducible refine (IG.out _).mono ?_); rintro e w4 ⟨rfl, hb4⟩; exact ⟨rfl, gc _ _ hb4⟩); go_big_quiet_on)))
            refine wpQuiet_nil ?_
            intro w5 h5
            have hb5 := ge _ h5
            go_wp2
            go_ret
            exact ⟨by rw [HR.out]; rfl, (HW.out _ hb5).2⟩
        · have hd : decide ((0 : Int) < (k : Int)) = false := by simp; omega
          clear hp
          rcases Bool.eq_false_or_eq_true (inB G[k].acked bs (bs + H.length)) with hI2 | hI2
          · have IG := Lib.hid (fun W => bl (is3 hI2 W))
            refine wp_region_kept f (by kernel_rfl) (by kernel_rfl) g0 ?_
            repeat (first
              | go_big_quiet_skip
              | (go_big_quiet_want; go_big_quiet_op; first
                | go_big_quiet_on
                | (apply Exists.intro; refine ⟨fun s => ?_, ?_⟩; (go_at_call 82; (with_reducible refine (NG.out _).mono ?_); rintro e w4 ⟨rfl, hb4⟩; exact ⟨rfl, gc _ _ hb4⟩); go_big_quiet_on)
                | (apply Exists.intro; refine ⟨fun s => ?_, ?_⟩; (go_at_call 95; (with_reducible refine (EN.out _).mono ?_); rintro e w4 ⟨rfl, hb4⟩; exact ⟨rfl, gc _ _ hb4⟩); go_big_quiet_on)
                | (apply Exists.intro; refine ⟨fun s => ?_, ?_⟩; (go_at_call 40; (with_reducible refine (IG.out _).mono ?_); rintro e w4 ⟨rfl, hb4⟩; exact ⟨rfl, gc _ _ hb4⟩); go_big_quiet_on)))
            refine wpQuiet_nil ?_
            intro w5 h5
            have hb5 := ge _ h5
            go_wp2
            refine ⟨⟨k + 1, by omega, by go_num, fun j hj hjk => ?_, (HW.out _ hb5).1, (HW.out _ hb5).2⟩, by simp [intOf]; omega⟩
            by_cases e : j = k
            · subst e
              exact ⟨hN2, hI2, fun h => absurd h hk0⟩
            · exact HOK.out j hj (by omega)
          · have IG := Lib.hid (fun W => bl (is3 hI2 W))
            have HR := Lib.hid (HB.out fun h => by have := h.2.1; rw [hI2] at this; cases this)
            refine wp_region_kept f (by kernel_rfl) (by kernel_rfl) g0 ?_
            repeat (first
              | go_big_quiet_skip
              | (go_big_quiet_want; go_big_quiet_op; first
                | go_big_quiet_on
                | (apply Exists.intro; refine ⟨fun s => ?_, ?_⟩; (go_at_call 82; (with_reducible refine (NG.out _).mono ?_); rintro e w4 ⟨rfl, hb4⟩; exact ⟨rfl, gc _ _ hb4⟩); go_big_quiet_on)
                | (apply Exists.intro; refine ⟨fun s => ?_, ?_⟩; (go_at_call 95; (with_reducible refine (EN.out _).mono ?_); rintro e w4 ⟨rfl, hb4⟩; exact ⟨rfl, gc _ _ hb4⟩); go_big_quiet_on)
                | (apply Exists.intro; refine ⟨fun s => ?_, ?_⟩; (go_at_call 40; (with_reducible refine (IG.out _).mono ?_); rintro e w4 ⟨rfl, hb4⟩; exact ⟨rfl, gc _ _ hb4⟩); go_big_quiet_on)))
            refine wpQuiet_nil ?_
            intro w5 h5
            have hb5 := ge _ h5
            go_wp2
            go_ret
            exact ⟨by rw [HR.out]; rfl, (HW.out _ hb5).2⟩
end Go.Proofs.Ytkimieeabmjfgaa

namespace Go.Proofs.Ytkimieeabmjfgaa
open Go.RowKit
set_option linter.unusedVariables false
set_option maxRecDepth 1000000
/-- What l07Begin answers. -/
def BgO (w : World) (nm : ByteArray) (bs : Int) (H : List ByteArray) (hg : List Grp) (kk : Nat) (cc : Int) (e : Ending) (w' : World) : Prop :=
  ∃ (A : Option Addr) (a : Nat) (B : Option Addr) (b : Nat) (L : List Grp) (k code : Int), e = .returned (.tuple #[topV nm bs (.slice A H.length a) (.slice B (List.length L) b), .int .i64 k, .int .i64 code]) ∧ code = cc ∧ (code = 0 → L = hg ∧ k = (kk : Int) ∧ OwnS w' w.heap.size (.slice A H.length a) H ∧ OwnG w' w.heap.size (.slice B (List.length L) b) L) ∧ Below w.heap.size w w'
set_option maxHeartbeats 8000000 in
theorem l07Begin_any (t : Tpc) (gn : ByteArray) (ok : Bool) (A : Option Addr) (c : Nat) (B : Option Addr) (d : Nat) (w : World) (hf : t.fits) (hs : gn.size ≤ maxLen) (hA : Strs w w.heap.size A t.held) (hB : Grs w w.heap.size B t.groups) (hc : Cap A t.held.length c) (hd : Cap B t.groups.length d) :
    Calls Try.prog 39 #[topV t.name t.base (.slice A t.held.length c) (.slice B t.groups.length d), .string gn, .bool ok] w (BgO w t.name t.base t.held (hasG t gn) (posG t.groups gn) (begC t gn ok)) := by
  have hs' := hs
  unfold maxLen at hs'
  have TR := Lib.hid (fun W (h : Below w.heap.size w W) => specTopicRight_any t A c B d W hf (hA.on h) (hB.on h))
  have HO := Lib.hid (topB_iff (t := t))
  have C1 := Lib.hid (beg_long (t := t) (g := gn) (ok := ok))
  have C2 := Lib.hid (beg_form (t := t) (g := gn) (ok := ok))
  have C3 := Lib.hid (beg_full (t := t) (g := gn) (ok := ok))
  have C4 := Lib.hid (beg_ok (t := t) (g := gn) (ok := ok))
  have GR := Lib.hid (fun W (h : Below w.heap.size w W) (ho : topOK t) => l07Group_any t gn A c B d W hs (hA.on h) (hB.on h) hc hd ho.2.2.1 ho.2.2.2.2.1)
  obtain ⟨cc, HCC⟩ : ∃ x, Hid (begC t gn ok = x) := ⟨_, Lib.hid rfl⟩
  obtain ⟨hg, HHG⟩ : ∃ x, Hid (hasG t gn = x) := ⟨_, Lib.hid rfl⟩
  obtain ⟨kk, HKK0⟩ : ∃ x, Hid (posG t.groups gn = x) := ⟨_, Lib.hid rfl⟩
  rw [HCC.out] at C1 C2 C3 C4 ⊢
  rw [HHG.out, HKK0.out]
  obtain ⟨nm, bs, H, G⟩ := t
  simp only at TR C1 C2 C3 C4 GR HKK0 hA hB hc hd ⊢
  have K := (Blk.fresh w 29 [.string nm, .int .i64 bs, .slice A H.length c, .slice B G.length d]).alloc (.cells #[.string ⟨#[]⟩, .int .i64 0, .slice none 0 0, .slice none 0 0] 29)
  have Z := Blk.fresh (w.alloc (.cells #[.string nm, .int .i64 bs, .slice A H.length c, .slice B G.length d] 29)) 29 [.string ⟨#[]⟩, .int .i64 0, .slice none 0 0, .slice none 0 0]
  have hb : Below w.heap.size w ((w.alloc (.cells #[.string nm, .int .i64 bs, .slice A H.length c, .slice B G.length d] 29)).alloc (.cells #[.string ⟨#[]⟩, .int .i64 0, .slice none 0 0, .slice none 0 0] 29)) := ((Below.refl _ _).alloc (Nat.le_refl _) _).alloc (by simp) _
  simp only [World.size_alloc] at K Z
  replace K : Blk ((w.alloc (.cells #[.string nm, .int .i64 bs, .slice A H.length c, .slice B G.length d] 29)).alloc (.cells #[.string ⟨#[]⟩, .int .i64 0, .slice none 0 0, .slice none 0 0] 29)) w.heap.size 29 [.string nm, .int .i64 bs, .slice A H.length c, .slice B G.length d] := K
  replace Z : Blk ((w.alloc (.cells #[.string nm, .int .i64 bs, .slice A H.length c, .slice B G.length d] 29)).alloc (.cells #[.string ⟨#[]⟩, .int .i64 0, .slice none 0 0, .slice none 0 0] 29)) (w.heap.size + 1) 29 [.string ⟨#[]⟩, .int .i64 0, .slice none 0 0, .slice none 0 0] := Z
  by_cases h1 : 20000 < gn.size
  · have h1' : (20000 : Int) < (gn.size : Int) := by omega
    have HC := Lib.hid (C1.out h1).symm
    clear h1
    have k0 := K.cell (i := 0) rfl
    have k1 := K.cell (i := 1) rfl
    have k2 := K.cell (i := 2) rfl
    have k3 := K.cell (i := 3) rfl
    have z0 := Z.cell (i := 0) rfl
    have z1 := Z.cell (i := 1) rfl
    have z2 := Z.cell (i := 2) rfl
    have z3 := Z.cell (i := 3) rfl
    have y0 := Z.froz 0
    have y1 := Z.froz 1
    have y2 := Z.froz 2
    have y3 := Z.froz 3
    go_enter Try.func39, Try.ntmps39
    go_wp2
    clear k0 k1 k2 k3 z0 z1 z2 z3 y0 y1 y2 y3
    have Z9 := Blk.fresh (w.alloc (.cells #[.string nm, .int .i64 bs, .slice A H.length c, .slice B G.length d] 29)) 29 [.string nm, .int .i64 bs, .slice A H.length c, .slice B G.length d]
    have hb9 : Below w.heap.size w ((w.alloc (.cells #[.string nm, .int .i64 bs, .slice A H.length c, .slice B G.length d] 29)).alloc (.cells #[.string nm, .int .i64 bs, .slice A H.length c, .slice B G.length d] 29)) := ((Below.refl _ _).alloc (Nat.le_refl _) _).alloc (by simp) _
    clear hb
    generalize (w.alloc (.cells #[.string nm, .int .i64 bs, .slice A H.length c, .slice B G.length d] 29)).alloc (.cells #[.string nm, .int .i64 bs, .slice A H.length c, .slice B G.length d] 29) = v9 at Z9 hb9 ⊢
    simp only [World.size_alloc] at Z9
    have x0 := Z9.cell (i := 0) rfl
    have x1 := Z9.cell (i := 1) rfl
    have x2 := Z9.cell (i := 2) rfl
    have x3 := Z9.cell (i := 3) rfl
    exact bodyPost_ret (v := .tuple #[topV nm bs (.slice A H.length c) (.slice B G.length d), .int .i64 0, .int .i64 2]) (by simp [results, Try.results39, go_sem, x0, x1, x2, x3]) rfl ⟨A, c, B, d, G, 0, 2, rfl, HC.out, (fun h => absurd h (by decide)), hb9⟩
  have h1' : ¬ (20000 : Int) < (gn.size : Int) := by omega
  have hsm : gn.size ≤ 20000 := by omega
  rcases Bool.eq_false_or_eq_true (topB ⟨nm, bs, H, G⟩) with hT | hT
  rotate_left
  · have HC := Lib.hid (C2.out h1 (by rw [hT]; rfl)).symm
    rw [hT] at TR
    clear h1
    have k0 := K.cell (i := 0) rfl
    have k1 := K.cell (i := 1) rfl
    have k2 := K.cell (i := 2) rfl
    have k3 := K.cell (i := 3) rfl
    have z0 := Z.cell (i := 0) rfl
    have z1 := Z.cell (i := 1) rfl
    have z2 := Z.cell (i := 2) rfl
    have z3 := Z.cell (i := 3) rfl
    have y0 := Z.froz 0
    have y1 := Z.froz 1
    have y2 := Z.froz 2
    have y3 := Z.froz 3
    go_enter Try.func39, Try.ntmps39
    go_wp2_with (fail)
    clear k0 k1 k2 k3 z0 z1 z2 z3 y0 y1 y2 y3
    generalize (w.alloc (.cells #[.string nm, .int .i64 bs, .slice A H.length c, .slice B G.length d] 29)).alloc (.cells #[.string ⟨#[]⟩, .int .i64 0, .slice none 0 0, .slice none 0 0] 29) = v0 at K Z hb ⊢
    refine (TR.out _ hb).mono ?_
    rintro e w1 ⟨rfl, hb1⟩
    have hw1 := hb.trans (hb1.mono hb.size)
    have K1 := K.below hb1 K.lt
    have Z1 := Z.below hb1 Z.lt
    have k0 := K1.cell (i := 0) rfl
    have z0 := Z1.cell (i := 0) rfl
    have y0 := Z1.froz 0
    have k1 := K1.cell (i := 1) rfl
    have z1 := Z1.cell (i := 1) rfl
    have y1 := Z1.froz 1
    have k2 := K1.cell (i := 2) rfl
    have z2 := Z1.cell (i := 2) rfl
    have y2 := Z1.froz 2
    have k3 := K1.cell (i := 3) rfl
    have z3 := Z1.cell (i := 3) rfl
    have y3 := Z1.froz 3
    go_wp2
    clear k0 k1 k2 k3 z0 z1 z2 z3 y0 y1 y2 y3
    have q1 := ((((Z1.put 0 (.string nm)).put 1 (.int .i64 bs)).put 2 (.slice A H.length c)).put 3 (.slice B G.length d))
    have q2 := ((((hw1.setCell (p := ⟨w.heap.size + 1, 0, none⟩) (by simp) (.string nm)).setCell (p := ⟨w.heap.size + 1, 1, none⟩) (by simp) (.int .i64 bs)).setCell (p := ⟨w.heap.size + 1, 2, none⟩) (by simp) (.slice A H.length c)).setCell (p := ⟨w.heap.size + 1, 3, none⟩) (by simp) (.slice B G.length d))
    simp only [List.set_cons_succ, List.set_cons_zero] at q1
    generalize ((((w1.setCell ⟨w.heap.size + 1, 0, none⟩ (.string nm)).setCell ⟨w.heap.size + 1, 1, none⟩ (.int .i64 bs)).setCell ⟨w.heap.size + 1, 2, none⟩ (.slice A H.length c)).setCell ⟨w.heap.size + 1, 3, none⟩ (.slice B G.length d)) = w9 at q1 q2 ⊢
    have x0 := q1.cell (i := 0) rfl
    have x1 := q1.cell (i := 1) rfl
    have x2 := q1.cell (i := 2) rfl
    have x3 := q1.cell (i := 3) rfl
    exact bodyPost_ret (v := .tuple #[topV nm bs (.slice A H.length c) (.slice B G.length d), .int .i64 0, .int .i64 1]) (by simp [results, Try.results39, go_sem, x0, x1, x2, x3]) rfl (show BgO w nm bs H hg kk cc _ w9 from ⟨A, c, B, d, G, 0, 1, rfl, HC.out, (fun h => absurd h (by decide)), q2⟩)
  rcases Bool.eq_false_or_eq_true (nameB gn) with hN | hN
  rotate_left
  · have HC := Lib.hid (C2.out h1 (by rw [hN]; simp)).symm
    rw [hT] at TR
    have NR := specName_b hN hs
    clear h1
    have k0 := K.cell (i := 0) rfl
    have k1 := K.cell (i := 1) rfl
    have k2 := K.cell (i := 2) rfl
    have k3 := K.cell (i := 3) rfl
    have z0 := Z.cell (i := 0) rfl
    have z1 := Z.cell (i := 1) rfl
    have z2 := Z.cell (i := 2) rfl
    have z3 := Z.cell (i := 3) rfl
    have y0 := Z.froz 0
    have y1 := Z.froz 1
    have y2 := Z.froz 2
    have y3 := Z.froz 3
    go_enter Try.func39, Try.ntmps39
    go_wp2_with (fail)
    clear k0 k1 k2 k3 z0 z1 z2 z3 y0 y1 y2 y3
    generalize (w.alloc (.cells #[.string nm, .int .i64 bs, .slice A H.length c, .slice B G.length d] 29)).alloc (.cells #[.string ⟨#[]⟩, .int .i64 0, .slice none 0 0, .slice none 0 0] 29) = v0 at K Z hb ⊢
    refine (TR.out _ hb).mono ?_
    rintro e w1 ⟨rfl, hb1⟩
    have hw1 := hb.trans (hb1.mono hb.size)
    have K1 := K.below hb1 K.lt
    have Z1 := Z.below hb1 Z.lt
    have k0 := K1.cell (i := 0) rfl
    have z0 := Z1.cell (i := 0) rfl
    have y0 := Z1.froz 0
    have k1 := K1.cell (i := 1) rfl
    have z1 := Z1.cell (i := 1) rfl
    have y1 := Z1.froz 1
    have k2 := K1.cell (i := 2) rfl
    have z2 := Z1.cell (i := 2) rfl
    have y2 := Z1.froz 2
    have k3 := K1.cell (i := 3) rfl
    have z3 := Z1.cell (i := 3) rfl
    have y3 := Z1.froz 3
    go_wp2_with (go_at_call 82; refine (NR _).mono ?_; rintro e w' ⟨rfl, rfl⟩)
    clear k0 k1 k2 k3 z0 z1 z2 z3 y0 y1 y2 y3
    have q1 := ((((Z1.put 0 (.string nm)).put 1 (.int .i64 bs)).put 2 (.slice A H.length c)).put 3 (.slice B G.length d))
    have q2 := ((((hw1.setCell (p := ⟨w.heap.size + 1, 0, none⟩) (by simp) (.string nm)).setCell (p := ⟨w.heap.size + 1, 1, none⟩) (by simp) (.int .i64 bs)).setCell (p := ⟨w.heap.size + 1, 2, none⟩) (by simp) (.slice A H.length c)).setCell (p := ⟨w.heap.size + 1, 3, none⟩) (by simp) (.slice B G.length d))
    simp only [List.set_cons_succ, List.set_cons_zero] at q1
    generalize ((((w'.setCell ⟨w.heap.size + 1, 0, none⟩ (.string nm)).setCell ⟨w.heap.size + 1, 1, none⟩ (.int .i64 bs)).setCell ⟨w.heap.size + 1, 2, none⟩ (.slice A H.length c)).setCell ⟨w.heap.size + 1, 3, none⟩ (.slice B G.length d)) = w9 at q1 q2 ⊢
    have x0 := q1.cell (i := 0) rfl
    have x1 := q1.cell (i := 1) rfl
    have x2 := q1.cell (i := 2) rfl
    have x3 := q1.cell (i := 3) rfl
    exact bodyPost_ret (v := .tuple #[topV nm bs (.slice A H.length c) (.slice B G.length d), .int .i64 0, .int .i64 1]) (by simp [results, Try.results39, go_sem, x0, x1, x2, x3]) rfl (show BgO w nm bs H hg kk cc _ w9 from ⟨A, c, B, d, G, 0, 1, rfl, HC.out, (fun h => absurd h (by decide)), q2⟩)
  have NR := specName_b hN hs
  cases ok with
  | false =>
    have HC := Lib.hid (C2.out h1 (by simp)).symm
    rw [hT] at TR
    clear h1
    have k0 := K.cell (i := 0) rfl
    have k1 := K.cell (i := 1) rfl
    have k2 := K.cell (i := 2) rfl
    have k3 := K.cell (i := 3) rfl
    have z0 := Z.cell (i := 0) rfl
    have z1 := Z.cell (i := 1) rfl
    have z2 := Z.cell (i := 2) rfl
    have z3 := Z.cell (i := 3) rfl
    have y0 := Z.froz 0
    have y1 := Z.froz 1
    have y2 := Z.froz 2
    have y3 := Z.froz 3
    go_enter Try.func39, Try.ntmps39
    go_wp2_with (fail)
    clear k0 k1 k2 k3 z0 z1 z2 z3 y0 y1 y2 y3
    generalize (w.alloc (.cells #[.string nm, .int .i64 bs, .slice A H.length c, .slice B G.length d] 29)).alloc (.cells #[.string ⟨#[]⟩, .int .i64 0, .slice none 0 0, .slice none 0 0] 29) = v0 at K Z hb ⊢
    refine (TR.out _ hb).mono ?_
    rintro e w1 ⟨rfl, hb1⟩
    have hw1 := hb.trans (hb1.mono hb.size)
    have K1 := K.below hb1 K.lt
    have Z1 := Z.below hb1 Z.lt
    have k0 := K1.cell (i := 0) rfl
    have z0 := Z1.cell (i := 0) rfl
    have y0 := Z1.froz 0
    have k1 := K1.cell (i := 1) rfl
    have z1 := Z1.cell (i := 1) rfl
    have y1 := Z1.froz 1
    have k2 := K1.cell (i := 2) rfl
    have z2 := Z1.cell (i := 2) rfl
    have y2 := Z1.froz 2
    have k3 := K1.cell (i := 3) rfl
    have z3 := Z1.cell (i := 3) rfl
    have y3 := Z1.froz 3
    go_wp2_with (go_at_call 82; refine (NR _).mono ?_; rintro e w' ⟨rfl, rfl⟩)
    clear k0 k1 k2 k3 z0 z1 z2 z3 y0 y1 y2 y3
    have q1 := ((((Z1.put 0 (.string nm)).put 1 (.int .i64 bs)).put 2 (.slice A H.length c)).put 3 (.slice B G.length d))
    have q2 := ((((hw1.setCell (p := ⟨w.heap.size + 1, 0, none⟩) (by simp) (.string nm)).setCell (p := ⟨w.heap.size + 1, 1, none⟩) (by simp) (.int .i64 bs)).setCell (p := ⟨w.heap.size + 1, 2, none⟩) (by simp) (.slice A H.length c)).setCell (p := ⟨w.heap.size + 1, 3, none⟩) (by simp) (.slice B G.length d))
    simp only [List.set_cons_succ, List.set_cons_zero] at q1
    generalize ((((w'.setCell ⟨w.heap.size + 1, 0, none⟩ (.string nm)).setCell ⟨w.heap.size + 1, 1, none⟩ (.int .i64 bs)).setCell ⟨w.heap.size + 1, 2, none⟩ (.slice A H.length c)).setCell ⟨w.heap.size + 1, 3, none⟩ (.slice B G.length d)) = w9 at q1 q2 ⊢
    have x0 := q1.cell (i := 0) rfl
    have x1 := q1.cell (i := 1) rfl
    have x2 := q1.cell (i := 2) rfl
    have x3 := q1.cell (i := 3) rfl
    exact bodyPost_ret (v := .tuple #[topV nm bs (.slice A H.length c) (.slice B G.length d), .int .i64 0, .int .i64 1]) (by simp [results, Try.results39, go_sem, x0, x1, x2, x3]) rfl (show BgO w nm bs H hg kk cc _ w9 from ⟨A, c, B, d, G, 0, 1, rfl, HC.out, (fun h => absurd h (by decide)), q2⟩)
  | true =>
    have hall : ¬ (topB ⟨nm, bs, H, G⟩ && (nameB gn && true)) = false := by rw [hT, hN]; simp
    have ho := HO.out.1 hT
    have GQ := Lib.hid (fun W (h : Below w.heap.size w W) => GR.out W h ho)
    rw [hT] at TR
    clear GR HO ho
    by_cases hfl : isG G gn = false ∧ 4 ≤ G.length
    · have HC := Lib.hid (C3.out h1 hall hfl).symm
      have HFL := Lib.hid hfl
      clear h1 hall hfl
      have k0 := K.cell (i := 0) rfl
      have k1 := K.cell (i := 1) rfl
      have k2 := K.cell (i := 2) rfl
      have k3 := K.cell (i := 3) rfl
      have z0 := Z.cell (i := 0) rfl
      have z1 := Z.cell (i := 1) rfl
      have z2 := Z.cell (i := 2) rfl
      have z3 := Z.cell (i := 3) rfl
      have y0 := Z.froz 0
      have y1 := Z.froz 1
      have y2 := Z.froz 2
      have y3 := Z.froz 3
      go_enter Try.func39, Try.ntmps39
      go_wp2_with (fail)
      clear k0 k1 k2 k3 z0 z1 z2 z3 y0 y1 y2 y3
      generalize (w.alloc (.cells #[.string nm, .int .i64 bs, .slice A H.length c, .slice B G.length d] 29)).alloc (.cells #[.string ⟨#[]⟩, .int .i64 0, .slice none 0 0, .slice none 0 0] 29) = v0 at K Z hb ⊢
      refine (TR.out _ hb).mono ?_
      rintro e w1 ⟨rfl, hb1⟩
      have hw1 := hb.trans (hb1.mono hb.size)
      have K1 := K.below hb1 K.lt
      have Z1 := Z.below hb1 Z.lt
      have k0 := K1.cell (i := 0) rfl
      have z0 := Z1.cell (i := 0) rfl
      have y0 := Z1.froz 0
      have k1 := K1.cell (i := 1) rfl
      have z1 := Z1.cell (i := 1) rfl
      have y1 := Z1.froz 1
      have k2 := K1.cell (i := 2) rfl
      have z2 := Z1.cell (i := 2) rfl
      have y2 := Z1.froz 2
      have k3 := K1.cell (i := 3) rfl
      have z3 := Z1.cell (i := 3) rfl
      have y3 := Z1.froz 3
      go_wp2_with (go_at_call 82; refine (NR _).mono ?_; rintro e w' ⟨rfl, rfl⟩)
      clear z0 z1 z2 z3 y0 y1 y2 y3
      refine (GQ.out _ hw1).mono ?_
      rintro e w2 ⟨A8, a8, B8, b8, he, oS, oG, hb2⟩
      rw [if_pos HFL.out] at he
      subst he
      have hw2 := hw1.trans (hb2.mono hw1.size)
      have K2 := K1.below hb2 K1.lt
      have Z2 := Z1.below hb2 Z1.lt
      clear k0 k1 k2 k3
      have P := Blk.fresh w2 29 [.string nm, .int .i64 bs, .slice A8 H.length a8, .slice B8 G.length b8]
      have hw3 := hw2.alloc hw2.size (.cells #[.string nm, .int .i64 bs, .slice A8 H.length a8, .slice B8 G.length b8] 29)
      have K3 := K2.alloc (.cells #[.string nm, .int .i64 bs, .slice A8 H.length a8, .slice B8 G.length b8] 29)
      have Z3 := Z2.alloc (.cells #[.string nm, .int .i64 bs, .slice A8 H.length a8, .slice B8 G.length b8] 29)
      have k0 := K3.cell (i := 0) rfl
      have z0 := Z3.cell (i := 0) rfl
      have y0 := Z3.froz 0
      have k1 := K3.cell (i := 1) rfl
      have z1 := Z3.cell (i := 1) rfl
      have y1 := Z3.froz 1
      have k2 := K3.cell (i := 2) rfl
      have z2 := Z3.cell (i := 2) rfl
      have y2 := Z3.froz 2
      have k3 := K3.cell (i := 3) rfl
      have z3 := Z3.cell (i := 3) rfl
      have y3 := Z3.froz 3
      go_wp2
      clear k0 k1 k2 k3 z0 z1 z2 z3 y0 y1 y2 y3
      generalize w2.alloc (.cells #[.string nm, .int .i64 bs, .slice A8 H.length a8, .slice B8 G.length b8] 29) = w3 at hw3 K3 Z3 ⊢
      have q1 := ((((Z3.put 0 (.string nm)).put 1 (.int .i64 bs)).put 2 (.slice A H.length c)).put 3 (.slice B G.length d))
      have q2 := ((((hw3.setCell (p := ⟨w.heap.size + 1, 0, none⟩) (by simp) (.string nm)).setCell (p := ⟨w.heap.size + 1, 1, none⟩) (by simp) (.int .i64 bs)).setCell (p := ⟨w.heap.size + 1, 2, none⟩) (by simp) (.slice A H.length c)).setCell (p := ⟨w.heap.size + 1, 3, none⟩) (by simp) (.slice B G.length d))
      simp only [List.set_cons_succ, List.set_cons_zero] at q1
      generalize ((((w3.setCell ⟨w.heap.size + 1, 0, none⟩ (.string nm)).setCell ⟨w.heap.size + 1, 1, none⟩ (.int .i64 bs)).setCell ⟨w.heap.size + 1, 2, none⟩ (.slice A H.length c)).setCell ⟨w.heap.size + 1, 3, none⟩ (.slice B G.length d)) = w9 at q1 q2 ⊢
      have x0 := q1.cell (i := 0) rfl
      have x1 := q1.cell (i := 1) rfl
      have x2 := q1.cell (i := 2) rfl
      have x3 := q1.cell (i := 3) rfl
      exact bodyPost_ret (v := .tuple #[topV nm bs (.slice A H.length c) (.slice B G.length d), .int .i64 0, .int .i64 9]) (by simp [results, Try.results39, go_sem, x0, x1, x2, x3]) rfl (show BgO w nm bs H hg kk cc _ w9 from ⟨A, c, B, d, G, 0, 9, rfl, HC.out, (fun h => absurd h (by decide)), q2⟩)
    · have HC := Lib.hid (C4.out h1 hall hfl).symm
      have HFL := Lib.hid hfl
      clear h1 hall hfl
      have k0 := K.cell (i := 0) rfl
      have k1 := K.cell (i := 1) rfl
      have k2 := K.cell (i := 2) rfl
      have k3 := K.cell (i := 3) rfl
      have z0 := Z.cell (i := 0) rfl
      have z1 := Z.cell (i := 1) rfl
      have z2 := Z.cell (i := 2) rfl
      have z3 := Z.cell (i := 3) rfl
      have y0 := Z.froz 0
      have y1 := Z.froz 1
      have y2 := Z.froz 2
      have y3 := Z.froz 3
      go_enter Try.func39, Try.ntmps39
      go_wp2_with (fail)
      clear k0 k1 k2 k3 z0 z1 z2 z3 y0 y1 y2 y3
      generalize (w.alloc (.cells #[.string nm, .int .i64 bs, .slice A H.length c, .slice B G.length d] 29)).alloc (.cells #[.string ⟨#[]⟩, .int .i64 0, .slice none 0 0, .slice none 0 0] 29) = v0 at K Z hb ⊢
      refine (TR.out _ hb).mono ?_
      rintro e w1 ⟨rfl, hb1⟩
      have hw1 := hb.trans (hb1.mono hb.size)
      have K1 := K.below hb1 K.lt
      have Z1 := Z.below hb1 Z.lt
      have k0 := K1.cell (i := 0) rfl
      have z0 := Z1.cell (i := 0) rfl
      have y0 := Z1.froz 0
      have k1 := K1.cell (i := 1) rfl
      have z1 := Z1.cell (i := 1) rfl
      have y1 := Z1.froz 1
      have k2 := K1.cell (i := 2) rfl
      have z2 := Z1.cell (i := 2) rfl
      have y2 := Z1.froz 2
      have k3 := K1.cell (i := 3) rfl
      have z3 := Z1.cell (i := 3) rfl
      have y3 := Z1.froz 3
      go_wp2_with (go_at_call 82; refine (NR _).mono ?_; rintro e w' ⟨rfl, rfl⟩)
      clear z0 z1 z2 z3 y0 y1 y2 y3
      refine (GQ.out _ hw1).mono ?_
      rintro e w2 ⟨A8, a8, B8, b8, he, oS0, oG0, hb2⟩
      simp only at he
      have oG1 := oG0 HFL.out
      clear oG0
      rw [if_neg HFL.out, HHG.out, HKK0.out] at he
      rw [HHG.out] at oG1
      subst he
      have hkk : ¬ (kk : Int) < 0 := by omega
      have zl := Z1.lt
      have hw2 := hw1.trans (hb2.mono hw1.size)
      have K2 := K1.below hb2 K1.lt
      have Z2 := Z1.below hb2 Z1.lt
      clear k0 k1 k2 k3
      have P := Blk.fresh w2 29 [.string nm, .int .i64 bs, .slice A8 H.length a8, .slice B8 hg.length b8]
      have hw3 := hw2.alloc hw2.size (.cells #[.string nm, .int .i64 bs, .slice A8 H.length a8, .slice B8 hg.length b8] 29)
      have K3 := K2.alloc (.cells #[.string nm, .int .i64 bs, .slice A8 H.length a8, .slice B8 hg.length b8] 29)
      have Z3 := Z2.alloc (.cells #[.string nm, .int .i64 bs, .slice A8 H.length a8, .slice B8 hg.length b8] 29)
      have al := (Below.refl w2.heap.size w2).alloc (Nat.le_refl _) (.cells #[.string nm, .int .i64 bs, .slice A8 H.length a8, .slice B8 hg.length b8] 29)
      have oS := row_below oS0 al (Nat.le_refl _)
      have oG := row_below oG1 al (Nat.le_refl _)
      clear oS0 oG1 al
      have k0 := K3.cell (i := 0) rfl
      have z0 := Z3.cell (i := 0) rfl
      have y0 := Z3.froz 0
      have k1 := K3.cell (i := 1) rfl
      have z1 := Z3.cell (i := 1) rfl
      have y1 := Z3.froz 1
      have k2 := K3.cell (i := 2) rfl
      have z2 := Z3.cell (i := 2) rfl
      have y2 := Z3.froz 2
      have k3 := K3.cell (i := 3) rfl
      have z3 := Z3.cell (i := 3) rfl
      have y3 := Z3.froz 3
      have p0 := P.cell (i := 0) rfl
      have p1 := P.cell (i := 1) rfl
      have p2 := P.cell (i := 2) rfl
      have p3 := P.cell (i := 3) rfl
      go_wp2
      clear k0 k1 k2 k3 z0 z1 z2 z3 y0 y1 y2 y3
      clear p0 p1 p2 p3
      generalize w2.alloc (.cells #[.string nm, .int .i64 bs, .slice A8 H.length a8, .slice B8 hg.length b8] 29) = w3 at hw3 K3 Z3 oS oG ⊢
      have q1 := ((((Z3.put 0 (.string nm)).put 1 (.int .i64 bs)).put 2 (.slice A8 H.length a8)).put 3 (.slice B8 hg.length b8))
      have q2 := ((((hw3.setCell (p := ⟨w.heap.size + 1, 0, none⟩) (by simp) (.string nm)).setCell (p := ⟨w.heap.size + 1, 1, none⟩) (by simp) (.int .i64 bs)).setCell (p := ⟨w.heap.size + 1, 2, none⟩) (by simp) (.slice A8 H.length a8)).setCell (p := ⟨w.heap.size + 1, 3, none⟩) (by simp) (.slice B8 hg.length b8))
      simp only [List.set_cons_succ, List.set_cons_zero] at q1
      have oS9 := row_far (row_far (row_far (row_far (oS) (p := ⟨w.heap.size + 1, 0, none⟩) (by simp; omega) (.string nm)) (p := ⟨w.heap.size + 1, 1, none⟩) (by simp; omega) (.int .i64 bs)) (p := ⟨w.heap.size + 1, 2, none⟩) (by simp; omega) (.slice A8 H.length a8)) (p := ⟨w.heap.size + 1, 3, none⟩) (by simp; omega) (.slice B8 hg.length b8)
      have oG9 := row_far (row_far (row_far (row_far (oG) (p := ⟨w.heap.size + 1, 0, none⟩) (by simp; omega) (.string nm)) (p := ⟨w.heap.size + 1, 1, none⟩) (by simp; omega) (.int .i64 bs)) (p := ⟨w.heap.size + 1, 2, none⟩) (by simp; omega) (.slice A8 H.length a8)) (p := ⟨w.heap.size + 1, 3, none⟩) (by simp; omega) (.slice B8 hg.length b8)
      clear oS oG
      generalize ((((w3.setCell ⟨w.heap.size + 1, 0, none⟩ (.string nm)).setCell ⟨w.heap.size + 1, 1, none⟩ (.int .i64 bs)).setCell ⟨w.heap.size + 1, 2, none⟩ (.slice A8 H.length a8)).setCell ⟨w.heap.size + 1, 3, none⟩ (.slice B8 hg.length b8)) = w9 at q1 q2 oS9 oG9 ⊢
      have x0 := q1.cell (i := 0) rfl
      have x1 := q1.cell (i := 1) rfl
      have x2 := q1.cell (i := 2) rfl
      have x3 := q1.cell (i := 3) rfl
      exact bodyPost_ret (v := .tuple #[topV nm bs (.slice A8 H.length a8) (.slice B8 hg.length b8), .int .i64 (kk : Int), .int .i64 0]) (by simp [results, Try.results39, go_sem, x0, x1, x2, x3]) rfl (show BgO w nm bs H hg kk cc _ w9 from ⟨A8, a8, B8, b8, hg, (kk : Int), 0, rfl, HC.out, fun _ => ⟨rfl, rfl, own_base oS9 (by omega), own_base oG9 (by omega)⟩, q2⟩)
end Go.Proofs.Ytkimieeabmjfgaa

namespace Go.Proofs.Ytkimieeabmjfgaa
open Go.RowKit Go.ChangeShapes Go.WideShapes Go.Deep
set_option linter.unusedVariables false
theorem cellsTop : Try.prog.cellsOf 25 = 4 := by kernel_rfl
theorem cellsGr : Try.prog.cellsOf 104 = 2 := by kernel_rfl
theorem cellsSlS : Try.prog.cellsOf 22 = 1 := by kernel_rfl
theorem cellsSlG : Try.prog.cellsOf 23 = 1 := by kernel_rfl
set_option maxRecDepth 1000000 in
theorem strs_cell {H : Type} {enc : TypeId × Value → H} {W : World} {c0 : Value} {n : Nat} {y0 : DataW H × List MemPlace} (hm' : DataW.trod enc Try.prog W 0 (fun _ => true) true n 22 [c0] = some y0) :
    ∃ A L c, c0 = .slice A L.length c ∧ Strs W W.heap.size A L ∧ ∀ s ∈ L, s.size ≤ maxLen := by
  rcases open_strings Try.underlying22 Try.underlying9 cellsStr1 hm' with ⟨h1, _⟩ | ⟨a, len, cap, zs, h1, _, hl, hc, hz, _, hcell, hwf⟩
  · injection h1 with h1 _
    subst h1
    exact ⟨none, [], 0, rfl, ⟨by simp [maxLen], fun i h => absurd h (by simp)⟩, fun s h => absurd h (by simp)⟩
  · injection h1 with h1 _
    subst h1
    have hzl : zs.length = cap := by simpa using hz
    have htl : (zs.take len).length = len := by simp; omega
    refine ⟨some a, zs.take len, cap, by rw [htl], ⟨by rw [htl]; omega, fun i hi => ?_⟩, fun s hs => hwf s (List.mem_of_mem_take hs)⟩
    have hi' : i < zs.length := by rw [htl] at hi; omega
    have hc1 := hcell i hi'
    have hg : zs.getD i ByteArray.empty = (zs.take len)[i] := by rw [List.getElem_take]; simp [List.getD, hi']
    rw [hg] at hc1
    exact ⟨a, rfl, by have := World.block_lt_of_cell? W _ hc1; rw [add_blk] at this; exact this, hc1⟩
set_option maxRecDepth 1000000 in
theorem grs_cell {H : Type} {enc : TypeId × Value → H} {W : World} {c0 : Value} {n : Nat} {y0 : DataW H × List MemPlace} (h1 : DataW.trod enc Try.prog W 0 (fun _ => true) true n 23 [c0] = some y0) :
    ∃ A L c, c0 = .slice A L.length c ∧ Grs W W.heap.size A L ∧ ∀ g ∈ L, g.fits := by
  rcases open_slice Try.underlying23 h1 with ⟨hc, _⟩ | ⟨a, len, cap, m, n', D, Pl, hc, _, hl, hm, hmm, _, hi⟩
  · injection hc with hc _
    subst hc
    exact ⟨none, [], 0, rfl, ⟨by simp [maxLen], fun i h => absurd h (by simp)⟩, fun g h => absurd h (by simp)⟩
  · injection hc with hc _
    subst hc
    have hmm' : m = cap := by simpa using hmm
    subst hmm'
    have key : ∀ i, i < len → ∃ f : Grp, W.cell? (a.add (i * 2)) = some (.string f.name) ∧ W.cell? (a.add (i * 2 + 1)) = some (.int .i64 f.acked) ∧ f.fits := by
      intro i hil
      obtain ⟨cs', hcc, ht⟩ := hi i (by omega)
      rw [cellsGr] at hcc
      obtain ⟨_, hcl, hat⟩ := World.cells?_some hcc
      obtain ⟨ys, n2, _, _, _, hyl, hfs⟩ := DataW.trod_struct Try.underlying104 ht
      match cs', hcl with
      | [u0, u1], _ =>
        match ys, hyl with
        | [z0, z1], _ =>
          have g0 := hfs 0 _ rfl
          have g1 := hfs 1 _ rfl
          simp only [List.getElem?_cons_zero, List.getElem?_cons_succ] at g0 g1
          obtain ⟨s0, e0, _, q0⟩ := DataW.trod_string Try.underlying9 g0
          obtain ⟨k2, e2, _, q2⟩ := DataW.trod_int Try.underlying2 g1
          injection e0 with e0 _; injection e2 with e2 _
          subst e0 e2
          have a0 := hat 0 (by omega)
          have a1 := hat 1 (by omega)
          rw [ofNat_add] at a0 a1
          have q := wf_i64 q2
          exact ⟨⟨s0, k2⟩, a0, a1, q0, q.1, q.2⟩
    let F : Nat → Grp := fun i => if h : i < len then (key i h).choose else default
    have hF : ∀ i, i < len → W.cell? (a.add (i * 2)) = some (.string (F i).name) ∧ W.cell? (a.add (i * 2 + 1)) = some (.int .i64 (F i).acked) ∧ (F i).fits := by
      intro i hil
      simp only [F, hil, dif_pos]
      exact (key i hil).choose_spec
    refine ⟨some a, (List.range len).map F, m, by simp, ⟨by simp; omega, fun i hi => ?_⟩, fun g hg => ?_⟩
    · have hil : i < len := by simpa using hi
      obtain ⟨c0, c1, c3⟩ := hF i hil
      have hbl := World.block_lt_of_cell? W _ c0
      rw [add_blk] at hbl
      exact ⟨a, rfl, hbl, by simpa using c0, by simpa using c1⟩
    · obtain ⟨i, hi, rfl⟩ := List.mem_map.1 hg
      exact (hF i (by simpa using hi)).2.2
set_option maxRecDepth 1000000 in
/-- What is known of a topic that came in. -/
theorem topic_arg {H : Type} {enc : TypeId × Value → H} {W : World} {r : Reach} {b0 : Nat} {v : Value} {d : DataW H} {p : List MemPlace} (hval : Value.okWide Try.prog W r b0 25 v) (h : DataW.Trod enc Try.prog W 0 (fun _ => true) true 25 v d p) :
    ∃ (t : Tpc) (A : Option Addr) (c : Nat) (B : Option Addr) (d : Nat), v = topV t.name t.base (.slice A t.held.length c) (.slice B t.groups.length d) ∧ t.fits ∧ Strs W W.heap.size A t.held ∧ Grs W W.heap.size B t.groups := by
  obtain ⟨cs, rfl, hsz⟩ := okWide_struct Try.underlying25 hval
  rw [cellsTop] at hsz
  obtain ⟨l⟩ := cs
  match l, hsz with
  | [c0, c1, c2, c3], _ =>
    obtain ⟨fuel, hf⟩ := h
    obtain ⟨ys, n2, _, _, _, hyl, hfs⟩ := DataW.trod_struct Try.underlying25 hf
    match ys, hyl with
    | [z0, z1, z2, z3], _ =>
      have g0 := hfs 0 _ rfl
      have g1 := hfs 1 _ rfl
      have g2 := hfs 2 _ rfl
      have g3 := hfs 3 _ rfl
      have g0' : DataW.trod enc Try.prog W 0 (fun _ => true) true n2 9 [c0] = some z0 := by simpa [Value.cells, cellsStr] using g0
      have g1' : DataW.trod enc Try.prog W 0 (fun _ => true) true n2 2 [c1] = some z1 := by simpa [Value.cells, cellsI64] using g1
      have g2' : DataW.trod enc Try.prog W 0 (fun _ => true) true n2 22 [c2] = some z2 := by simpa [Value.cells, cellsSlS] using g2
      have g3' : DataW.trod enc Try.prog W 0 (fun _ => true) true n2 23 [c3] = some z3 := by simpa [Value.cells, cellsSlG] using g3
      obtain ⟨s0, e0, _, q0⟩ := DataW.trod_string Try.underlying9 g0'
      obtain ⟨k1, e1, _, q1⟩ := DataW.trod_int Try.underlying2 g1'
      injection e0 with e0 _; injection e1 with e1 _
      subst e0 e1
      obtain ⟨A, L, c, rfl, hL, hLf⟩ := strs_cell g2'
      obtain ⟨B, M, d, rfl, hM, hMf⟩ := grs_cell g3'
      exact ⟨⟨s0, k1, L, M⟩, A, c, B, d, rfl, ⟨q0, wf_i64 q1, hLf, hMf⟩, hL, hM⟩
end Go.Proofs.Ytkimieeabmjfgaa
