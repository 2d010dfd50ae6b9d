/- The walk of the law FnFetch. -/
import Derived.Test.YtjnbhppnchmeoaaDrTpF2W
import Derived.Test.YtjnbhppnchmeoaaTpFtW
import Derived.Test.YtjnbhppnchmeoaaTpEndW
import Derived.Test.YtjnbhppnchmeoaaTpFetMW
import Derived.Test.YtjnbhppnchmeoaaTpAckW
import Derived.BigQuiet
import Derived.Deep.RegionLaw
import Derived.Deep.DeepCutAuto
namespace Go.Proofs.Ytjnbhppnchmeoaa
open Go.RowKit
set_option linter.unusedVariables false
set_option linter.unusedSimpArgs false
set_option maxRecDepth 1000000

theorem fet_fits (t : Tpc) (g : ByteArray) (n : Int) : (fetT t g n).o.fits := by
  by_cases h0 : (fetT t g n).code = 0
  · have h := fetch_facts h0
    rw [h.2.2.1]; exact h.2.1.facts.1
  · unfold fetT forR at h0 ⊢
    split
    · rename_i hb; rw [if_pos hb] at h0; exact absurd rfl h0
    · exact illF _
set_option maxHeartbeats 32000000 in
theorem lawFetchIn (A1 A2 : Option Addr) (n1 n2 c1 c2 : Nat) (w : World) (h1 : Bts w w.heap.size A1 n1) (h2 : Bts w w.heap.size A2 n2) :
    Calls Try.prog 4 #[.slice A1 n1 c1, .slice A2 n2 c2] w fun e w' => e = .returned (.bool true) ∧ Below w.heap.size w w' := by
  have l1 := h1.1
  have l2 := h2.1
  have b1 : decide (1048576 < (n1 : Int)) = false := by simp; omega
  have b2 : decide (1048576 < (n2 : Int)) = false := by simp; omega
  go_enter Try.func4, Try.ntmps4
  go_wp2_with (fail)
  refine (drawTopicFetch_any A1 n1 c1 _ h1).mono ?_
  rintro e v1 ⟨t, A, a, C, c, s, n, rfl, ⟨hez, hrh, hrg, w1⟩, ks, kn⟩
  have HE1 := hrh.strs
  have HG1 := hrg.grs
  have cA := hrh.cap
  have cC := hrg.cap
  clear hrh hrg
  have P2 := Blk.fresh v1 26 [.string t.name, .int .i64 t.base, .slice A t.held.length a, .slice C t.groups.length c]
  have hb2 : Below v1.heap.size v1 (v1.alloc (.cells #[.string t.name, .int .i64 t.base, .slice A t.held.length a, .slice C t.groups.length c] 26)) := (Below.refl _ _).alloc (Nat.le_refl _) _
  simp only [List.toArray] at P2
  have q0 := P2.cell (i := 0) rfl
  have q1 := P2.cell (i := 1) rfl
  have q2 := P2.cell (i := 2) rfl
  have q3 := P2.cell (i := 3) rfl
  go_wp2_with (fail)
  clear q0 q1 q2 q3
  generalize v1.alloc (.cells #[.string t.name, .int .i64 t.base, .slice A t.held.length a, .slice C t.groups.length c] 26) = v2 at P2 hb2 ⊢
  have w2 := w1.trans (hb2.mono w1.size)
  have HE2 := HE1.on hb2
  have HG2 := HG1.on hb2
  generalize v1.heap.size = p at P2 hb2 ⊢
  clear HE1 HG1 hb2 w1
  have hsm : s.size ≤ maxLen := by unfold maxLen; omega
  have SR := Lib.hid (fun W (h : Below v2.heap.size v2 W) => specTopicFetch_any t s n A a C c W hez.1 hsm kn (HE2.on h) (HG2.on h) cA cC)
  have IR := Lib.hid (implTopicFetch_any t s n A a C c v2 hez.1 hez.2 hsm HE2 HG2)
  have HOK := Lib.hid (fun h0 => fetch_facts (t := t) (g := s) (n := n) h0)
  have HSF := Lib.hid (fun h0 => fetch_ack (t := t) (g := s) (n := n) h0 rfl)
  obtain ⟨z1, z2, z3, z4⟩ := fet_small t s n
  have hof := fet_fits t s n
  obtain ⟨R, HR⟩ : ∃ R, Hid (fetT t s n = R) := ⟨_, Lib.hid rfl⟩
  rw [HR.out] at SR IR z1 z2 z3 z4 hof
  simp only [HR.out] at HOK HSF
  refine IR.out.mono ?_
  rintro e v3 ⟨A5, a5, C5, c5, T5, x5, rfl, sA, sB, sT, _, cA5, cC5, hb3⟩
  have HA5 := sA.strs z1
  have HC5 := sB.grs z2
  have HT5 := sT.strs z3
  have w3 := w2.trans (hb3.mono w2.size)
  have P3 := P2.below hb3 P2.lt
  clear IR sA sB sT z1 z2 z3 z4 P2 HR
  have X4 := Blk.fresh v3 30 [.string R.o.name, .int .i64 R.o.base, .slice A5 R.o.held.length a5, .slice C5 R.o.groups.length c5, .slice T5 R.texts.length x5, .int .i64 R.n, .int .i64 R.code]
  have hb4 : Below v3.heap.size v3 (v3.alloc (.cells #[.string R.o.name, .int .i64 R.o.base, .slice A5 R.o.held.length a5, .slice C5 R.o.groups.length c5, .slice T5 R.texts.length x5, .int .i64 R.n, .int .i64 R.code] 30)) := (Below.refl _ _).alloc (Nat.le_refl _) _
  simp only [List.toArray] at X4
  go_wp2_with (fail)
  generalize v3.alloc (.cells #[.string R.o.name, .int .i64 R.o.base, .slice A5 R.o.held.length a5, .slice C5 R.o.groups.length c5, .slice T5 R.texts.length x5, .int .i64 R.n, .int .i64 R.code] 30) = v4 at X4 hb4 ⊢
  generalize v3.heap.size = q at X4 ⊢
  have w4 := w3.trans (hb4.mono w3.size)
  have P4 := P3.below hb4 P3.lt
  have B34 := hb3.trans (hb4.mono hb3.size)
  have A4 := HA5.on hb4
  have G4 := HC5.on hb4
  have T4 := HT5.on hb4
  have HT4 := Lib.hid (fun W (h : Below v4.heap.size v4 W) => And.intro (HE2.on (B34.trans (h.mono B34.size))) (HG2.on (B34.trans (h.mono B34.size))))
  have SR4 := Lib.hid (fun W (h : Below v4.heap.size v4 W) => SR.out W (B34.trans (h.mono B34.size)))
  clear HA5 HC5 HT5 hb4 hb3 P3 w3 w2 SR B34 HE2 HG2
  refine (drawTopicAck_any A2 n2 c2 _ (bts_upT h2 w4)).mono ?_
  rintro e v5 ⟨u, A3, a3, C3, c3, g, m, rfl, ⟨hez3, hrh, hrg, hb5⟩, kg, km⟩
  have HE5 := hrh.strs
  have HG5 := hrg.grs
  have cA3 := hrh.cap
  have cC3 := hrg.cap
  clear hrh hrg
  have w5 := w4.trans (hb5.mono w4.size)
  have P5 := P4.below hb5 P4.lt
  have X5 := X4.below hb5 X4.lt
  have A5x := A4.on hb5
  have G5 := G4.on hb5
  have T5x := T4.on hb5
  have HT5 := Lib.hid (fun W (h : Below v5.heap.size v5 W) => HT4.out W (hb5.trans (h.mono hb5.size)))
  have SR5 := Lib.hid (fun W (h : Below v5.heap.size v5 W) => SR4.out W (hb5.trans (h.mono hb5.size)))
  clear SR4 A4 G4 T4 hb5 w4 P4 X4
  have U6 := Blk.fresh v5 26 [.string u.name, .int .i64 u.base, .slice A3 u.held.length a3, .slice C3 u.groups.length c3]
  have hb6 : Below v5.heap.size v5 (v5.alloc (.cells #[.string u.name, .int .i64 u.base, .slice A3 u.held.length a3, .slice C3 u.groups.length c3] 26)) := (Below.refl _ _).alloc (Nat.le_refl _) _
  simp only [List.toArray] at U6
  have q0 := U6.cell (i := 0) rfl
  have q1 := U6.cell (i := 1) rfl
  have q2 := U6.cell (i := 2) rfl
  have q3 := U6.cell (i := 3) rfl
  go_wp2_with (fail)
  clear q0 q1 q2 q3
  generalize v5.alloc (.cells #[.string u.name, .int .i64 u.base, .slice A3 u.held.length a3, .slice C3 u.groups.length c3] 26) = v6 at U6 hb6 ⊢
  have w6 := w5.trans (hb6.mono w5.size)
  have HE6 := HE5.on hb6
  have HG6 := HG5.on hb6
  have P6 := P5.below hb6 P5.lt
  have X6 := X5.below hb6 X5.lt
  have A6 := A5x.on hb6
  have G6 := G5.on hb6
  have T6 := T5x.on hb6
  have HT6 := Lib.hid (fun W (h : Below v6.heap.size v6 W) => HT5.out W (hb6.trans (h.mono hb6.size)))
  have SR6 := Lib.hid (fun W (h : Below v6.heap.size v6 W) => SR5.out W (hb6.trans (h.mono hb6.size)))
  generalize v5.heap.size = p2 at U6 hb6 ⊢
  clear HE5 HG5 hb6 w5 P5 X5 A5x G5 T5x SR5
  have hgm : g.size ≤ maxLen := by unfold maxLen; omega
  refine (drawTopicLag_any A2 n2 c2 _ (bts_upT h2 w6)).mono ?_
  rintro e v7 ⟨v, A7, a7, C7, c7, x, rfl, ⟨hez7, hrh, hrg, hb7⟩, kx⟩
  have hxm : x.size ≤ maxLen := by unfold maxLen; omega
  have HE7 := hrh.strs
  have HG7 := hrg.grs
  have cA7 := hrh.cap
  have cC7 := hrg.cap
  clear hrh hrg
  have Y8 := Blk.fresh v7 26 [.string v.name, .int .i64 v.base, .slice A7 v.held.length a7, .slice C7 v.groups.length c7]
  have hb8 : Below v7.heap.size v7 (v7.alloc (.cells #[.string v.name, .int .i64 v.base, .slice A7 v.held.length a7, .slice C7 v.groups.length c7] 26)) := (Below.refl _ _).alloc (Nat.le_refl _) _
  simp only [List.toArray] at Y8
  have q0 := Y8.cell (i := 0) rfl
  have q1 := Y8.cell (i := 1) rfl
  have q2 := Y8.cell (i := 2) rfl
  have q3 := Y8.cell (i := 3) rfl
  go_upto_region 7 with (fail)
  clear q0 q1 q2 q3
  generalize v7.alloc (.cells #[.string v.name, .int .i64 v.base, .slice A7 v.held.length a7, .slice C7 v.groups.length c7] 26) = v8 at Y8 hb8 ⊢
  have HE8 := HE7.on hb8
  have HG8 := HG7.on hb8
  have B68 := hb7.trans (hb8.mono hb7.size)
  generalize v7.heap.size = p3 at Y8 ⊢
  have w8 := w6.trans (B68.mono w6.size)
  have P8 := P6.below B68 P6.lt
  have X8 := X6.below B68 X6.lt
  have U8 := U6.below B68 U6.lt
  have A8 := A6.on B68
  have G8 := G6.on B68
  have T8 := T6.on B68
  have E68 := HE6.on B68
  have G68 := HG6.on B68
  have S8 := Lib.hid (fun W (h : Below v8.heap.size v8 W) => And.intro (four_of (P8.below h P8.lt)) (And.intro (seven_of (X8.below h X8.lt)) (And.intro (four_of (U8.below h U8.lt)) (four_of (Y8.below h Y8.lt)))))
  have HT8 := Lib.hid (fun W (h : Below v8.heap.size v8 W) => HT6.out W (B68.trans (h.mono B68.size)))
  have SR8 := Lib.hid (fun W (h : Below v8.heap.size v8 W) => SR6.out W (B68.trans (h.mono B68.size)))
  have LT8 := Lib.hid (fun W (h : Below v8.heap.size v8 W) A9 a9 B9 b9 T9 x9 (sA : Strs W W.heap.size A9 R.o.held) (sB : Grs W W.heap.size B9 R.o.groups) (sT : Strs W W.heap.size T9 R.texts) => lwTopics_same R A5 C5 A9 B9 T5 T9 a5 c5 a9 b9 x5 x9 W (A8.on h) (G8.on h) sA sB (T8.on h) sT (fun h0 => by have := HOK.out h0; rw [this.2.2.1]; exact this.2.1) hof)
  have IQ8 := Lib.hid (fun W (h : Below v8.heap.size v8 W) => implTopicAck_any u g m A3 a3 C3 c3 W hez3.1 hez3.2 hgm (E68.on h) (G68.on h))
  have SQ8 := Lib.hid (fun W (h : Below v8.heap.size v8 W) => specTopicAck_any u g m A3 a3 C3 c3 W hez3.1 hgm (E68.on h) (G68.on h) cA3 cC3)
  have IL8 := Lib.hid (fun W (h : Below v8.heap.size v8 W) => implTopicLag_any v x A7 a7 C7 c7 W hez7.1 hxm (HE8.on h) (HG8.on h))
  have SL8 := Lib.hid (fun W (h : Below v8.heap.size v8 W) => specTopicLag_any v x A7 a7 C7 c7 W hez7.1 hxm (HE8.on h) (HG8.on h))
  have HQ0 := Lib.hid (fun h0 => (set_ok (t := u) (gn := g) (n := m) (back := false) h0).2.2.2.2.2.2)
  obtain ⟨z1, z2, z3, _⟩ := set_small u g m false
  have hoq := set_fits u g m false
  generalize setT u g m false = Q at IQ8 SQ8 HQ0 z1 z2 z3 hoq
  generalize lagT v x = lg at IL8 SL8
  have LQ8 := Lib.hid (fun W (_ : Below v8.heap.size v8 W) B1 b1 B2 b2 B3 b3 B4 b4 B5 b5 B6 b6 (sA : Strs W W.heap.size B1 Q.o.held) (sB : Grs W W.heap.size B2 Q.o.groups) (sT : Strs W W.heap.size B3 Q.texts) (tA : Strs W W.heap.size B4 Q.o.held) (tB : Grs W W.heap.size B5 Q.o.groups) (tT : Strs W W.heap.size B6 Q.texts) => lwTopics_same Q B1 B2 B4 B5 B3 B6 b1 b2 b4 b5 b3 b6 W sA sB tA tB sT tT HQ0.out hoq)
  have lgl : (lg != lg) = false := by simp
  clear SR6 A6 G6 T6 hb7 hb8 B68 P6 X6 U6 w6 hof HE6 HG6 HE7 HG7 E68 G68 hoq HQ0 HE8 HG8
  have hX : Below v8.heap.size v8 v8.drew := below_drew (Below.refl _ _)
  have s0 := S8.out _ hX
  go_cut [73] (fun s wx => s = .bool false ∧ Below v8.heap.size v8 wx)
  case first =>
    go_region_held3 (fun W => (W.cell? ⟨p, 0, none⟩ = some (.string t.name) ∧ W.cell? ⟨p, 1, none⟩ = some (.int .i64 t.base) ∧ W.cell? ⟨p, 2, none⟩ = some (.slice A t.held.length a) ∧ W.cell? ⟨p, 3, none⟩ = some (.slice C t.groups.length c)) ∧ (W.cell? ⟨q, 0, none⟩ = some (.string R.o.name) ∧ W.cell? ⟨q, 1, none⟩ = some (.int .i64 R.o.base) ∧ W.cell? ⟨q, 2, none⟩ = some (.slice A5 R.o.held.length a5) ∧ W.cell? ⟨q, 3, none⟩ = some (.slice C5 R.o.groups.length c5) ∧ W.cell? ⟨q, 4, none⟩ = some (.slice T5 R.texts.length x5) ∧ W.cell? ⟨q, 5, none⟩ = some (.int .i64 R.n) ∧ W.cell? ⟨q, 6, none⟩ = some (.int .i64 R.code)) ∧ (W.cell? ⟨p2, 0, none⟩ = some (.string u.name) ∧ W.cell? ⟨p2, 1, none⟩ = some (.int .i64 u.base) ∧ W.cell? ⟨p2, 2, none⟩ = some (.slice A3 u.held.length a3) ∧ W.cell? ⟨p2, 3, none⟩ = some (.slice C3 u.groups.length c3)) ∧ W.cell? ⟨p3, 0, none⟩ = some (.string v.name) ∧ W.cell? ⟨p3, 1, none⟩ = some (.int .i64 v.base) ∧ W.cell? ⟨p3, 2, none⟩ = some (.slice A7 v.held.length a7) ∧ W.cell? ⟨p3, 3, none⟩ = some (.slice C7 v.groups.length c7))
      (first
        | with_reducible exact s0
        | with_reducible exact sa
        | with_reducible exact sb
        | with_reducible exact sc
        | with_reducible exact sd
        | with_reducible exact se
        | with_reducible exact sf
        | with_reducible exact sg)
      (first
        | (go_at_call 25; (with_reducible refine (SR8.out _ hX).mono ?_); rintro e wa ⟨A9, a9, B9, b9, T9, x9, rfl, sA, sB, sT, _, _, hba⟩; have ha := hX.trans (hba.mono hX.size); have sa := S8.out _ ha)
        | (go_at_call 13; (with_reducible refine (LT8.out wa ha A9 a9 B9 b9 T9 x9 sA sB sT).mono ?_); rintro e wb ⟨rfl, hbb⟩; clear sA sB sT; have hb := ha.trans (hbb.mono ha.size); have sb := S8.out _ hb)
        | (go_at_call 26; (with_reducible refine (IQ8.out _ hb).mono ?_); rintro e wc ⟨B1, b1, B2, b2, B3, b3, rfl, tA, tB, tT, _, _, _, hbc⟩; have tA := tA.strs z1; have tB := tB.grs z2; have tT := tT.strs z3; have hc := hb.trans (hbc.mono hb.size); have sc := S8.out _ hc)
        | (go_at_call 27; (with_reducible refine (SQ8.out _ hc).mono ?_); rintro e wd ⟨B4, b4, B5, b5, B6, b6, rfl, uA, uB, uT, _, _, hbd⟩; have tA := tA.on hbd; have tB := tB.on hbd; have tT := tT.on hbd; have hd := hc.trans (hbd.mono hc.size); have sd := S8.out _ hd)
        | (go_at_call 13; (with_reducible refine (LQ8.out wd hd B1 b1 B2 b2 B3 b3 B4 b4 B5 b5 B6 b6 tA tB tT uA uB uT).mono ?_); rintro e we ⟨rfl, hbe⟩; have he := hd.trans (hbe.mono hd.size); have se := S8.out _ he)
        | (go_at_call 28; (with_reducible refine (IL8.out _ he).mono ?_); rintro e wf ⟨rfl, hbf⟩; have hf := he.trans (hbf.mono he.size); have sf := S8.out _ hf)
        | (go_at_call 29; (with_reducible refine (SL8.out _ hf).mono ?_); rintro e wg ⟨rfl, hbg⟩; have hg := hf.trans (hbg.mono hf.size); have sg := S8.out _ hg))
    all_goals
      clear s0 SR8 LT8 SQ8 IQ8 LQ8 IL8 SL8 HSF HOK
      go_wp2_with (fail)
      go_meet
      case rel => with_reducible exact ⟨rfl, hg⟩
  case rest =>
    obtain ⟨rfl, hb9⟩ := hcut
    clear SR8 SQ8 LT8 IQ8 LQ8 IL8 SL8 S8 s0 hX
    have X9 := X8.below hb9 X8.lt
    have k6 := X9.cell (i := 6) rfl
    by_cases hcd : R.code = 0
    rotate_left
    · have e1 : (R.code != 0) = true := by simp [hcd]
      clear HSF HOK
      go_wp2
      go_ret
      exact ⟨rfl, w8.trans (hb9.mono w8.size)⟩
    · have e1 : (R.code != 0) = false := by simp [hcd]
      obtain ⟨ho, hw, hRo, hn, f1, f2, f3, f4, f5, _⟩ := HOK.out hcd
      have HSK := Lib.hid (HSF.out hcd)
      rw [← hRo] at HSK
      obtain ⟨_, g2, _, _, _, g6, _⟩ := topEl_iff.1 ho
      obtain ⟨k, Hk⟩ : ∃ k, Hid (R.texts.length = k) := ⟨_, Lib.hid rfl⟩
      obtain ⟨rn, Hrn⟩ : ∃ z, Hid (R.n = z) := ⟨_, Lib.hid rfl⟩
      simp only [Hk.out, Hrn.out] at f1 f2 f3 f4 f5 HSK X9 A8 G8 T8
      have x1 := X9.cell (i := 4) rfl
      clear HSF HOK hcd
      go_upto_region 12 with (fail)
      clear x1
      have hE : endT t = t.base + t.held.length := by unfold endT; rw [topB_true ho, if_pos rfl]
      obtain ⟨ee, Hee⟩ : ∃ z, Hid (t.base + (t.held.length : Int) = z) := ⟨_, Lib.hid rfl⟩
      have ET := Lib.hid (fun W (h : Below v8.heap.size v8 W) => specTopicEnd_any t A a C c W hez.1 (HT8.out W h).1 (HT8.out W h).2)
      rw [hE, Hee.out] at ET
      rw [Hee.out] at f3 f5 g6
      obtain ⟨j, Hj⟩ : ∃ j : Nat, Hid (rn - t.base = (j : Int)) := ⟨(rn - t.base).toNat, Lib.hid (by omega)⟩
      have hsub := Hj.out
      have hjk : j + k ≤ t.held.length := by have := Hee.out; omega
      obtain ⟨_, hcap, hcm⟩ := cA
      unfold maxLen at hcm
      have b0 : decide (n < (k : Int)) = false := by simp; omega
      have b3 : decide (rn < t.base) = false := by simp; omega
      have b4 : decide (ee < rn + (k : Int)) = false := by simp; omega
      have kmz : decide ((k : Int) < n) = true ∧ (rn + (k : Int) != ee) = false ∨ decide ((k : Int) < n) = false := by
        by_cases h : (k : Int) < n
        · exact .inl ⟨by simp; omega, by have := f5 h; simp; omega⟩
        · exact .inr (by simp; omega)
      have LTX := Lib.hid (fun W (h : Below v8.heap.size v8 W) => lwTexts_n T5 (if a = j then A else Option.map (fun x => x.add j) A) R.texts k x5 (a - j) W Hk.out (T8.on h) (by rw [f4, show (rn - t.base).toNat = j by omega]; exact strs_takeN (strs_drop (HT8.out W h).1 (by omega) (by omega)) k))
      have P9 := P8.below hb9 P8.lt
      go_cut [133] (fun s wx => s = .bool false ∧ Below v8.heap.size v8 wx)
      case first =>
        obtain ⟨I, fw, hI, g0', gk, gc, ge⟩ := class_grown wc
        have HB9 := Lib.hid (fun W (h : Below wc.heap.size wc W) => hb9.trans (h.mono hb9.size))
        have x0 := fun s => kept_cell (gk s) (P9.cell (i := 0) rfl)
        have x1 := fun s => kept_cell (gk s) (P9.cell (i := 1) rfl)
        have x2 := fun s => kept_cell (gk s) (P9.cell (i := 2) rfl)
        have x3 := fun s => kept_cell (gk s) (P9.cell (i := 3) rfl)
        have y2 := fun s => kept_cell (gk s) (X9.cell (i := 4) rfl)
        have y5 := fun s => kept_cell (gk s) (X9.cell (i := 5) rfl)
        refine wp_region_kept fw (by kernel_rfl) (by kernel_rfl) g0' ?_
        rcases kmz with ⟨km1, km2⟩ | km1
        all_goals
          repeat (first
            | go_big_quiet_skip
            | (go_big_quiet_want; go_big_quiet_op; first
              | go_big_quiet_on
              | (apply Exists.intro; refine ⟨fun s => ?_, ?_⟩; (go_at_call 16; (with_reducible refine (ET.out _ (HB9.out _ (gk s))).mono ?_); rintro e w4 ⟨rfl, hb4⟩; exact ⟨rfl, gc _ _ hb4⟩); go_big_quiet_on)
              | (apply Exists.intro; refine ⟨fun s => ?_, ?_⟩; (go_at_call 19; (with_reducible refine (LTX.out _ (HB9.out _ (gk s))).mono ?_); rintro e w4 ⟨rfl, n4, rfl⟩; exact ⟨rfl, gc _ _ (below_drewN (Below.refl _ _) n4)⟩); go_big_quiet_on)))
          refine wpQuiet_nil ?_
          intro w5 h5
          have hb5 := HB9.out _ (ge _ h5)
          clear x0 x1 x2 x3 y2 y5 gk gc ge g0' h5 LTX HB9
          generalize (if a = j then A else Option.map (fun x => x.add j) A) = A3
          go_wp2_with (fail)
          go_meet
          case rel => exact ⟨rfl, hb5⟩
      case rest =>
        obtain ⟨rfl, hbc⟩ := hcut
        have PA := P8.below hbc P8.lt
        have XA := X8.below hbc X8.lt
        simp only [Hk.out, Hrn.out] at XA
        have A10 := A8.on hbc
        have G10 := G8.on hbc
        have wA := w8.trans (hbc.mono w8.size)
        have hox : R.o.fits ∧ R.o.small := by rw [hRo]; exact hw.facts
        have EA := Lib.hid (fun W (h : Below wc.heap.size wc W) => ET.out W (hbc.trans (h.mono hbc.size)))
        have AK := Lib.hid (implTopicAck_any R.o s (rn + (k : Int)) A5 a5 C5 c5 wc hox.1 hox.2 hsm A10 G10)
        obtain ⟨q1, q2, q3, _⟩ := set_small R.o s (rn + (k : Int)) false
        obtain ⟨s1, s2, s3, s4, s5⟩ := HSK.out
        rw [Hee.out] at s5
        generalize setT R.o s (rn + (k : Int)) false = Y at AK q1 q2 q3 s1 s2 s3 s4 s5
        have S1 := Lib.hid s1
        have S3 := Lib.hid s3
        have S4 := Lib.hid s4
        have S5 := Lib.hid s5
        clear s1 s3 s4 s5
        clear hRo hw ho HSK ET LTX P9 X9 P8 X8 A8 G8 T8 HT8 HT6 HT5 HT4 Y8 U8 z1 z2 z3 hbc hb9 k6 A10 G10 kmz hcap hcm hjk Hj hE f4 f5 f1 w8 hez hez3 hez7
        have x0 := XA.cell (i := 0) rfl
        have x1 := XA.cell (i := 1) rfl
        have x2 := XA.cell (i := 2) rfl
        have x3 := XA.cell (i := 3) rfl
        have x5' := XA.cell (i := 5) rfl
        go_wp2_with (fail)
        clear x0 x1 x2 x3 x5'
        refine AK.out.mono ?_
        rintro e v11 ⟨B1, d1, B2, d2, B3, d3, rfl, tA, tB, tT, _, _, _, hb11⟩
        have HB1 := tA.strs q1
        have HB2 := tB.grs q2
        clear tA tB tT AK
        have PB := PA.below hb11 PA.lt
        have XB := XA.below hb11 XA.lt
        have wB := wA.trans (hb11.mono wA.size)
        have EB := Lib.hid (fun W (h : Below v11.heap.size v11 W) => EA.out W (hb11.trans (h.mono hb11.size)))
        clear PA XA wA EA hb11
        have YK := Blk.fresh v11 30 [.string Y.o.name, .int .i64 Y.o.base, .slice B1 Y.o.held.length d1, .slice B2 Y.o.groups.length d2, .slice B3 Y.texts.length d3, .int .i64 Y.n, .int .i64 Y.code]
        have hb12 : Below v11.heap.size v11 (v11.alloc (.cells #[.string Y.o.name, .int .i64 Y.o.base, .slice B1 Y.o.held.length d1, .slice B2 Y.o.groups.length d2, .slice B3 Y.texts.length d3, .int .i64 Y.n, .int .i64 Y.code] 30)) := (Below.refl _ _).alloc (Nat.le_refl _) _
        simp only [List.toArray] at YK
        have FK := Lib.hid (implTopicFetch_any Y.o s n B1 d1 B2 d2 (v11.alloc (.cells #[.string Y.o.name, .int .i64 Y.o.base, .slice B1 Y.o.held.length d1, .slice B2 Y.o.groups.length d2, .slice B3 Y.texts.length d3, .int .i64 Y.n, .int .i64 Y.code] 30)) s2.facts.1 s2.facts.2 hsm (HB1.on hb12) (HB2.on hb12))
        have LK := Lib.hid (fun W (h : Below (v11.alloc (.cells #[.string Y.o.name, .int .i64 Y.o.base, .slice B1 Y.o.held.length d1, .slice B2 Y.o.groups.length d2, .slice B3 Y.texts.length d3, .int .i64 Y.n, .int .i64 Y.code] 30)).heap.size (v11.alloc (.cells #[.string Y.o.name, .int .i64 Y.o.base, .slice B1 Y.o.held.length d1, .slice B2 Y.o.groups.length d2, .slice B3 Y.texts.length d3, .int .i64 Y.n, .int .i64 Y.code] 30)) W) => implTopicLag_any Y.o s B1 d1 B2 d2 W s2.facts.1 hsm ((HB1.on hb12).on h) ((HB2.on hb12).on h))
        rw [S5.out] at LK
        have y0 := YK.cell (i := 0) rfl
        have y1 := YK.cell (i := 1) rfl
        have y2 := YK.cell (i := 2) rfl
        have y3 := YK.cell (i := 3) rfl
        go_wp2_with (fail)
        clear y0 y1 y2 y3
        generalize v11.alloc (.cells #[.string Y.o.name, .int .i64 Y.o.base, .slice B1 Y.o.held.length d1, .slice B2 Y.o.groups.length d2, .slice B3 Y.texts.length d3, .int .i64 Y.n, .int .i64 Y.code] 30) = v12 at YK hb12 FK LK ⊢
        have PC := PB.below hb12 PB.lt
        have XC := XB.below hb12 XB.lt
        have wC := wB.trans (hb12.mono wB.size)
        have EC := Lib.hid (fun W (h : Below v12.heap.size v12 W) => EB.out W (hb12.trans (h.mono hb12.size)))
        clear PB XB wB EB
        generalize fetT Y.o s n = Z at FK S3 S4
        refine FK.out.mono ?_
        rintro e v13 ⟨D1, k1, D2, k2, D3, k3, rfl, _, _, _, _, _, _, hb13⟩
        have ZK := Blk.fresh v13 30 [.string Z.o.name, .int .i64 Z.o.base, .slice D1 Z.o.held.length k1, .slice D2 Z.o.groups.length k2, .slice D3 Z.texts.length k3, .int .i64 Z.n, .int .i64 Z.code]
        have hb14 : Below v13.heap.size v13 (v13.alloc (.cells #[.string Z.o.name, .int .i64 Z.o.base, .slice D1 Z.o.held.length k1, .slice D2 Z.o.groups.length k2, .slice D3 Z.texts.length k3, .int .i64 Z.n, .int .i64 Z.code] 30)) := (Below.refl _ _).alloc (Nat.le_refl _) _
        simp only [List.toArray] at ZK
        go_wp2_with (fail)
        generalize v13.alloc (.cells #[.string Z.o.name, .int .i64 Z.o.base, .slice D1 Z.o.held.length k1, .slice D2 Z.o.groups.length k2, .slice D3 Z.texts.length k3, .int .i64 Z.n, .int .i64 Z.code] 30) = v14 at ZK hb14 ⊢
        have hbE := hb13.trans (hb14.mono hb13.size)
        have PE := PC.below hbE PC.lt
        have XE := XC.below hbE XC.lt
        have YE := YK.below hbE YK.lt
        have wE := wC.trans (hbE.mono wC.size)
        rw [S4.out, S3.out] at ZK
        rw [S1.out] at YE
        clear PC XC YK wC hb13 hb14 FK
        obtain ⟨I, fw, hI, g0', gk, gc, ge⟩ := class_grown v14
        have HBE := Lib.hid (fun W (h : Below v14.heap.size v14 W) => hbE.trans (h.mono hbE.size))
        have x0 := fun s => kept_cell (gk s) (PE.cell (i := 0) rfl)
        have x1 := fun s => kept_cell (gk s) (PE.cell (i := 1) rfl)
        have x2 := fun s => kept_cell (gk s) (PE.cell (i := 2) rfl)
        have x3 := fun s => kept_cell (gk s) (PE.cell (i := 3) rfl)
        have u5 := fun s => kept_cell (gk s) (XE.cell (i := 5) rfl)
        have y0 := fun s => kept_cell (gk s) (YE.cell (i := 0) rfl)
        have y1 := fun s => kept_cell (gk s) (YE.cell (i := 1) rfl)
        have y2 := fun s => kept_cell (gk s) (YE.cell (i := 2) rfl)
        have y3 := fun s => kept_cell (gk s) (YE.cell (i := 3) rfl)
        have y6 := fun s => kept_cell (gk s) (YE.cell (i := 6) rfl)
        have z5 := fun s => kept_cell (gk s) (ZK.cell (i := 5) rfl)
        have z6 := fun s => kept_cell (gk s) (ZK.cell (i := 6) rfl)
        refine wp_region_kept fw (by kernel_rfl) (by kernel_rfl) g0' ?_
        repeat (first
          | go_big_quiet_skip
          | (go_big_quiet_want; go_big_quiet_op; first
            | go_big_quiet_on
            | (apply Exists.intro; refine ⟨fun s => ?_, ?_⟩; (go_at_call 16; (with_reducible refine (EC.out _ (HBE.out _ (gk s))).mono ?_); rintro e w4 ⟨rfl, hb4⟩; exact ⟨rfl, gc _ _ hb4⟩); go_big_quiet_on)
            | (apply Exists.intro; refine ⟨fun s => ?_, ?_⟩; (go_at_call 28; (with_reducible refine (LK.out _ (HBE.out _ (gk s))).mono ?_); rintro e w4 ⟨rfl, hb4⟩; exact ⟨rfl, gc _ _ hb4⟩); go_big_quiet_on)))
        refine wpQuiet_nil ?_
        intro w5 h5
        have hb5 := ge _ h5
        go_wp2
        go_ret
        exact ⟨rfl, wE.trans (hb5.mono wE.size)⟩
theorem lawFetchBig (A1 A2 : Option Addr) (n1 n2 c1 c2 : Nat) (w : World) (h : 1048576 < n1 ∨ (n1 ≤ 1048576 ∧ 1048576 < n2)) (h1 : n1 ≤ maxLen) (h2 : n2 ≤ maxLen) :
    Calls Try.prog 4 #[.slice A1 n1 c1, .slice A2 n2 c2] w fun e w' => e = .returned (.bool true) ∧ Below w.heap.size w w' := by
  unfold maxLen at h1 h2
  rcases h with h | ⟨h, h'⟩
  · go_enter Try.func4, Try.ntmps4
    go_wp2
    go_ret
    exact ⟨rfl, Below.refl _ _⟩
  · go_enter Try.func4, Try.ntmps4
    go_wp2
    go_ret
    exact ⟨rfl, Below.refl _ _⟩
theorem lawFetchAll (A1 : Option Addr) (n1 c1 : Nat) (A2 : Option Addr) (n2 c2 : Nat) (w : World) (h1 : Byt w A1 n1) (h2 : Byt w A2 n2) :
    Calls Try.prog 4 #[.slice A1 n1 c1, .slice A2 n2 c2] w fun e w' => e = .returned (.bool true) ∧ Below w.heap.size w w' := by
  by_cases k1 : n1 ≤ 1048576
  · by_cases k2 : n2 ≤ 1048576
    · exact lawFetchIn A1 A2 n1 n2 c1 c2 w (h1.2 k1) (h2.2 k2)
    · exact lawFetchBig A1 A2 n1 n2 c1 c2 w (by omega) h1.1 h2.1
  · exact lawFetchBig A1 A2 n1 n2 c1 c2 w (by omega) h1.1 h2.1
end Go.Proofs.Ytjnbhppnchmeoaa
