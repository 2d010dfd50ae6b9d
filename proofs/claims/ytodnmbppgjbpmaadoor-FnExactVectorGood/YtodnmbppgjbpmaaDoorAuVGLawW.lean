/- VectorGood of the specification. VectorGood of the program. The walk of the exact law of VectorGood. -/
import Derived.Test.YtodnmbppgjbpmaaDoorAuVecLawW
import Derived.BigRegion
import Derived.Deep.RegionHeld3
import Derived.Test.YtodnmbppgjbpmaaDoorAuVW
import Derived.Deep.RegionLaw
namespace Go.Proofs.YtodnmbppgjbpmaaDoor
open Go.RowKit
set_option linter.unusedVariables false
set_option maxRecDepth 1000000

set_option maxHeartbeats 4000000 in
theorem specVG_any (k : ByteArray) (f d : Int) (t : ByteArray) (A : Option Addr) (M : List ByteArray) (c : Nat) (w : World) (hk : k.size ≤ maxLen) (ht : t.size ≤ maxLen) (hM : Strs w w.heap.size A M) :
    Calls Tryd.prog 19 #[.string k, .int .i64 f, .int .i64 d, .string t, .slice A M.length c] w fun e w' => e = .returned (.bool (vgB k f d t M)) ∧ Below w.heap.size w w' := by
  have HI := Lib.hid (fun h => vgB_in (k := k) (f := f) (d := d) (t := t) (M := M) h)
  have HO := Lib.hid (fun h => vgB_out (k := k) (f := f) (d := d) (t := t) (M := M) h)
  have SP := Lib.hid (specVector_any k f t w hk ht)
  have hk' := hk
  have ht' := ht
  have hml := hM.1
  unfold maxLen at hk' ht' hml
  generalize vgB k f d t M = R at HI HO ⊢
  by_cases hl : 20000 < t.size
  · obtain rfl := HO.out (fun h => by omega)
    go_enter Tryd.func19, Tryd.ntmps19
    go_wp2
    go_ret
    exact ⟨rfl, Below.refl _ _⟩
  · have q3 : decide (20000 < (t.size : Int)) = false := by simp; omega
    by_cases h4 : M.length = 4
    · have q4 : ((M.length : Int) != 4) = false := by simp; omega
      rcases Bool.eq_false_or_eq_true (decide (Who f)) with ha | ha
      · rcases Bool.eq_false_or_eq_true (decide (Who d)) with hb | hb
        · have ha' := of_decide_eq_true ha
          have hb' := of_decide_eq_true hb
          by_cases hab : f = d
          · have q5 : (f == d) = true := by simp; exact hab
            obtain rfl := HO.out (fun h => h.1.2.2.2 hab)
            clear hab
            go_enter Tryd.func19, Tryd.ntmps19
            go_wp2_with (go_at_call 40; refine (who_any (by first | with_reducible exact ha | with_reducible exact hb) _).mono ?_; rintro e w1 ⟨rfl, rfl⟩)
            go_ret
            exact ⟨rfl, Below.refl _ _⟩
          · have q5 : (f == d) = false := by simp; exact hab
            by_cases hs : Sec k
            · have hv : Hid (vecO k f t = vecB k f.toNat t 4) := Lib.hid (vecO_in ⟨by omega, hs, ha'⟩)
              have hdn : d.toNat < 4 := by unfold Who at hb'; omega
              have HE := Lib.hid (HI.out ⟨⟨hs, ha', hb', hab⟩, by omega, h4⟩ (by omega))
              rw [hv.out, vecB_len] at SP
              have hG := Lib.hid (vecB_get (k := k) (f := f.toNat) (t := t) hdn)
              obtain ⟨V, HV⟩ : ∃ V, Hid (vecB k f.toNat t 4 = V) := ⟨_, Lib.hid rfl⟩
              have hVl : Hid (V.length = 4) := Lib.hid (by rw [← HV.out, vecB_len])
              have hG2 : Hid (∀ h : d.toNat < V.length, V[d.toNat] = codeB k f.toNat d.toNat t) := Lib.hid (by intro h; have := hG.out; simp only [HV.out] at this; exact this)
              rw [HV.out] at SP
              clear hG HI HO hv
              unfold Who at hb'
              obtain ⟨dn, rfl⟩ : ∃ n : Nat, d = n := ⟨d.toNat, by omega⟩
              have hd4 : (dn : Int) < 4 := by omega
              simp only [Int.toNat_natCast] at HE hG2 hdn
              obtain ⟨x, HX⟩ : ∃ x, Hid (codeB k f.toNat dn t = x) := ⟨_, Lib.hid rfl⟩
              rw [HX.out] at HE
              have hG3 : Hid (V[dn]'(by rw [hVl.out]; omega) = x) := Lib.hid (by rw [hG2.out (by rw [hVl.out]; omega), HX.out])
              clear hG2
              obtain ⟨y, HY⟩ : ∃ y, Hid (M[dn]'(by omega) = y) := ⟨_, Lib.hid rfl⟩
              rw [HY.out] at HE
              obtain ⟨b, rfl, hbb, m0⟩ := hM.2 dn (by omega)
              rw [HY.out] at m0
              have hR : R = (x.toList == y.toList) := HE.out
              subst hR
              go_enter Tryd.func19, Tryd.ntmps19
              go_wp2_with (first
                | (go_at_call 40; refine (who_any (by first | with_reducible exact ha | with_reducible exact hb) _).mono ?_; rintro e w1 ⟨rfl, rfl⟩)
                | (go_at_call 14; refine SP.out.mono ?_; rintro e w1 ⟨A1, c1, rfl, hO1, hb1⟩))
              have hO2 : OwnS w1 w.heap.size (.slice A1 V.length c1) V := by rw [hVl.out]; exact hO1
              obtain ⟨a, rfl, hab2, x0⟩ := hO2.strs.2.2 dn (by rw [hVl.out]; omega)
              rw [hG3.out] at x0
              have y0 : w1.cell? (b.add dn) = some (.string y) := by rw [hb1.cell (p := b.add dn) (by rw [add_blk]; exact hbb)]; exact m0
              have h4' : M.length = 4 := h4
              go_quiet (fail)
              go_wp2
              go_ret
              exact ⟨rfl, below_drewN hb1 _⟩
            · have hv : Hid (vecO k f t = []) := Lib.hid (vecO_out (fun h => hs h.2.1))
              obtain rfl := HO.out (fun h => hs h.1.1)
              rw [hv.out] at SP
              clear hs hab HI HO hv
              go_enter Tryd.func19, Tryd.ntmps19
              go_wp2_with (first
                | (go_at_call 40; refine (who_any (by first | with_reducible exact ha | with_reducible exact hb) _).mono ?_; rintro e w1 ⟨rfl, rfl⟩)
                | (go_at_call 14; refine SP.out.mono ?_; rintro e w1 ⟨A1, c1, rfl, hO1, hb1⟩))
              go_quiet (fail)
              go_wp2
              go_ret
              exact ⟨rfl, below_drewN hb1 _⟩
        · obtain rfl := HO.out (fun h => by have := decide_eq_true h.1.2.2.1; rw [hb] at this; cases this)
          go_enter Tryd.func19, Tryd.ntmps19
          go_wp2_with (go_at_call 40; refine (who_any (by first | with_reducible exact ha | with_reducible exact hb) _).mono ?_; rintro e w1 ⟨rfl, rfl⟩)
          go_ret
          exact ⟨rfl, Below.refl _ _⟩
      · obtain rfl := HO.out (fun h => by have := decide_eq_true h.1.2.1; rw [ha] at this; cases this)
        go_enter Tryd.func19, Tryd.ntmps19
        go_wp2_with (go_at_call 40; refine (who_any ha _).mono ?_; rintro e w1 ⟨rfl, rfl⟩)
        go_ret
        exact ⟨rfl, Below.refl _ _⟩
    · have q4 : ((M.length : Int) != 4) = true := by simp; omega
      obtain rfl := HO.out (fun h => h4 h.2.2)
      go_enter Tryd.func19, Tryd.ntmps19
      go_wp2
      go_ret
      exact ⟨rfl, Below.refl _ _⟩
end Go.Proofs.YtodnmbppgjbpmaaDoor

namespace Go.Proofs.YtodnmbppgjbpmaaDoor
open Go.RowKit
set_option linter.unusedVariables false
set_option maxRecDepth 1000000

theorem kept_cell2 {w w' : World} {B : Nat} {a : Addr} {v : Value} (hb : Below B w w') (ha : a.block < B) (h : w.cell? a = some v) : w'.cell? a = some v := by
  rw [hb.cell (p := a) ha]; exact h
set_option maxHeartbeats 4000000 in
theorem implVG_any (k : ByteArray) (f d : Int) (t : ByteArray) (A : Option Addr) (M : List ByteArray) (c : Nat) (w : World) (hk : k.size ≤ maxLen) (ht : t.size ≤ maxLen) (hM : Strs w w.heap.size A M) (hK : Keys w) (hw : 2 < w.heap.size) :
    Calls Tryd.prog 15 #[.string k, .int .i64 f, .int .i64 d, .string t, .slice A M.length c] w fun e w' => e = .returned (.bool (vgB k f d t M)) ∧ Below w.heap.size w w' := by
  have HI := Lib.hid (fun h => vgB_in (k := k) (f := f) (d := d) (t := t) (M := M) h)
  have HO := Lib.hid (fun h => vgB_out (k := k) (f := f) (d := d) (t := t) (M := M) h)
  have PK := Lib.hid (implPairKey_any k f d w hk hK hw)
  have TL : ∀ W, Calls Tryd.prog 46 #[.string t] W fun e w' => e = .returned (.bool (decide (20000 < t.size))) ∧ W = w' := fun W => (tooLong_any t W ht).mono fun e w' h => ⟨h.1, h.2.symm⟩
  have hk' := hk
  have ht' := ht
  have hml := hM.1
  unfold maxLen at hk' ht' hml
  generalize vgB k f d t M = R at HI HO ⊢
  by_cases hg : Sec k ∧ Who f ∧ Who d ∧ f ≠ d
  · rw [keyB_in hg] at PK
    obtain ⟨key, HKy⟩ : ∃ x, Hid (pairB k f.toNat d.toNat = x) := ⟨_, Lib.hid rfl⟩
    have hks : key.size = 32 := by rw [← HKy.out, pairB_size]
    rw [HKy.out] at PK
    have hfe := empty_no (s := key) (by omega)
    rcases Bool.eq_false_or_eq_true (decide (20000 < t.size)) with hl | hl
    · have hl' := of_decide_eq_true hl
      obtain rfl := HO.out (fun h => by omega)
      rw [hl] at TL
      clear hg
      go_enter Tryd.func15, Tryd.ntmps15
      go_wp2_with (first
        | (go_at_call 9; refine PK.out.mono ?_; rintro e w1 ⟨rfl, hb1⟩)
        | (go_at_call 46; refine (TL _).mono ?_; rintro e w2 ⟨rfl, rfl⟩))
      go_ret
      exact ⟨rfl, hb1⟩
    · have hl' := of_decide_eq_false hl
      rw [hl] at TL
      by_cases h4 : M.length = 4
      · have q4 : ((M.length : Int) != 4) = false := by simp; omega
        have hdl : d.toNat < M.length := by have := hg.2.2.1; unfold Who at this; omega
        have HE := Lib.hid (HI.out ⟨hg, by omega, h4⟩ hdl)
        have hb' := hg.2.2.1
        have hff : Hid (codeB k f.toNat d.toNat t = cutB key t) := Lib.hid (by
          unfold codeB
          have h1 := hg.2.1
          have h2 := hg.2.2.2
          unfold Who at h1 hb'
          rw [if_neg (by omega), pairB_comm, HKy.out])
        unfold Who at hb'
        clear HI HO hg
        obtain ⟨dn, rfl⟩ : ∃ n : Nat, d = n := ⟨d.toNat, by omega⟩
        have hd4 : (dn : Int) < 4 := by omega
        simp only [Int.toNat_natCast] at HE hff
        obtain ⟨x, HX⟩ : ∃ x, Hid (cutB key t = x) := ⟨_, Lib.hid rfl⟩
        rw [hff.out, HX.out] at HE
        obtain ⟨y, HY⟩ : ∃ y, Hid (M[dn]'(by omega) = y) := ⟨_, Lib.hid rfl⟩
        rw [HY.out] at HE
        obtain ⟨b, rfl, hbb, m0⟩ := hM.2 dn (by omega)
        rw [HY.out] at m0
        have hR : R = (x.toList == y.toList) := HE.out
        subst hR
        clear HE hff HY
        have CD : Hid (∀ W, Below w.heap.size w W → Calls Tryd.prog 48 #[.string t, .slice (some ⟨W.heap.size, 0, none⟩) 1 1] (W.alloc (.cells #[.string key] 9)) fun e w' => ∃ g, ∃ c' : Nat, e = .returned (.slice (some ⟨g, 0, none⟩) 1 c') ∧ w'.cell? ⟨g, 0, none⟩ = some (.string x) ∧ Below W.heap.size W w') := Lib.hid (by
          intro W h
          have hB := Blk.fresh W 9 ([key].map Value.string)
          have hS := hB.strs (by simp [maxLen])
          have hz := h.size
          refine (codes_any (some ⟨W.heap.size, 0, none⟩) [key] 1 t (W.alloc (.cells #[.string key] 9)) hS (by simp) (fun i hi => by simp at hi; subst hi; show key.size ≤ 32; omega) (by omega) (hK.below (h.alloc (Nat.le_trans (Nat.le_refl _) hz) _) hw) (by rw [World.size_alloc]; omega)).mono ?_
          rintro e w' ⟨g, c', rfl, hR, hb⟩
          refine ⟨g, c', rfl, ?_, ((Below.refl _ _).alloc (Nat.le_refl _) _).trans (hb.mono (by rw [World.size_alloc]; omega))⟩
          have hx : encB key t = x := by unfold encB; rw [if_neg (by omega)]; exact HX.out
          exact World.ownsRow.cells hR.1 (g := g) rfl 0 (.string x) (by simp [encL, hx]))
        go_enter Tryd.func15, Tryd.ntmps15
        go_wp2_with (first
          | (go_at_call 9; refine PK.out.mono ?_; rintro e w1 ⟨rfl, hb1⟩)
          | (go_at_call 46; refine (TL _).mono ?_; rintro e w2 ⟨rfl, rfl⟩))
        have y1 := kept_cell2 hb1 (by rw [add_blk]; exact hbb) m0
        have hbd : Below w.heap.size w w1.drew := below_drew hb1
        have z0 : w1.drew.cell? (b.add dn) = some (.string y) := y1
        have C1 : Hid (Calls Tryd.prog 48 #[.string t, .slice (some ⟨w1.heap.size, 0, none⟩) 1 1] (w1.alloc (.cells #[.string key] 9)).drew fun e w' => ∃ g, ∃ c' : Nat, e = .returned (.slice (some ⟨g, 0, none⟩) 1 c') ∧ w'.cell? ⟨g, 0, none⟩ = some (.string x) ∧ Below w1.heap.size w1.drew w') := Lib.hid (CD.out w1.drew hbd)
        have hlb : (b.add dn).block < w1.heap.size := by rw [add_blk]; have := hb1.size; omega
        clear CD
        have z1 : (w1.alloc (.cells #[.string key] 9)).drew.cell? (b.add dn) = some (.string y) := kept_cell2 ((Below.refl w1.heap.size w1.drew).alloc (Nat.le_refl _) _) hlb z0
        go_region_law
          (first
            | (go_simp; go_at_call 48; (with_reducible refine C1.out.mono ?_); rintro e w3 ⟨g3, c3, rfl, x3, hb3⟩; have z2 := kept_cell2 hb3 hlb z0))
        all_goals
          go_wp2
          go_ret
          exact ⟨rfl, hbd.trans (hb3.mono hbd.size)⟩
      · have q4 : ((M.length : Int) != 4) = true := by simp; omega
        obtain rfl := HO.out (fun h => h4 h.2.2)
        clear hg
        go_enter Tryd.func15, Tryd.ntmps15
        go_wp2_with (first
          | (go_at_call 9; refine PK.out.mono ?_; rintro e w1 ⟨rfl, hb1⟩)
          | (go_at_call 46; refine (TL _).mono ?_; rintro e w2 ⟨rfl, rfl⟩))
        go_ret
        exact ⟨rfl, hb1⟩
  · rw [keyB_out hg] at PK
    obtain rfl := HO.out (fun h => hg h.1)
    rcases Bool.eq_false_or_eq_true (decide (20000 < t.size)) with hl | hl
    all_goals
      rw [hl] at TL
      clear hg
      go_enter Tryd.func15, Tryd.ntmps15
      go_wp2_with (first
        | (go_at_call 9; refine PK.out.mono ?_; rintro e w1 ⟨rfl, hb1⟩)
        | (go_at_call 46; refine (TL _).mono ?_; rintro e w2 ⟨rfl, rfl⟩))
      go_ret
      exact ⟨rfl, hb1⟩
end Go.Proofs.YtodnmbppgjbpmaaDoor

namespace Go.Proofs.YtodnmbppgjbpmaaDoor
open Go.RowKit
set_option linter.unusedVariables false
set_option maxRecDepth 1000000

set_option maxHeartbeats 4000000 in
theorem lawVectorGood (k : ByteArray) (f d : Int) (t : ByteArray) (A : Option Addr) (M : List ByteArray) (c : Nat) (w : World) (w0 : k.size ≤ maxLen) (w1 : (Lit.int .i64 f).wf = true) (w2 : (Lit.int .i64 d).wf = true) (w3 : t.size ≤ maxLen) (hM : Strs w w.heap.size A M) (hm : ∀ s ∈ M, s.size ≤ maxLen) (hK : Keys w) (hw : 2 < w.heap.size) :
    Calls Tryd.prog 6 #[.string k, .int .i64 f, .int .i64 d, .string t, .slice A M.length c] w fun e w' => e = .returned (.bool true) ∧ Below w.heap.size w w' := by
  have HK := Lib.hid (fun W (h : Below w.heap.size w W) => hK.below h hw)
  have HM := Lib.hid (fun W (h : Below w.heap.size w W) => (hM.below h (Nat.le_refl _)).mono h.size)
  have SP := Lib.hid (fun A c W (h : Strs W W.heap.size A M) => specVG_any k f d t A M c W w0 w3 h)
  have IM := Lib.hid (fun A c W (h : Strs W W.heap.size A M) (hb : Below w.heap.size w W) => implVG_any k f d t A M c W w0 w3 h (HK.out W hb) (Nat.lt_of_lt_of_le hw hb.size))
  have HZ := Lib.hid (szStringS_any A M c w hM hm)
  have hs := w0
  have ht := w3
  unfold maxLen at hs ht
  clear w0 w3 hm
  generalize vgB k f d t M = R at SP IM
  by_cases h1 : k.size ≤ 1048576
  · by_cases h2 : t.size ≤ 1048576
    · go_enter Tryd.func6, Tryd.ntmps6
      go_wp2_with (go_at_call 27; refine HZ.out.mono ?_; rintro e v0 ⟨r, rfl, r0, r1, hS, hb0⟩)
      · go_ret
        exact ⟨rfl, hb0⟩
      · have hr : 0 ≤ r := by omega
        obtain ⟨hn, hf⟩ := hS hr
        clear hS HZ
        go_wp2_with (fail)
        refine (toStringS_any A M c v0 (HM.out _ hb0) hn).mono ?_
        rintro e v1 ⟨g1, c1, rfl, hR1, hb1⟩
        have b1 := hb0.trans (hb1.mono hb0.size)
        go_wp2_with (fail)
        refine (SP.out (some ⟨g1, 0, none⟩) c1 v1 hR1.strs).mono ?_
        rintro e v2 ⟨rfl, hb2⟩
        have b2 := b1.trans (hb2.mono b1.size)
        go_wp2_with (fail)
        refine (toStringS_any A M c v2 (HM.out _ b2) hn).mono ?_
        rintro e v3 ⟨g2, c2, rfl, hR2, hb3⟩
        have b3 := b2.trans (hb3.mono b2.size)
        go_wp2_with (fail)
        refine (IM.out (some ⟨g2, 0, none⟩) c2 v3 hR2.strs b3).mono ?_
        rintro e v4 ⟨rfl, hb4⟩
        have b4 := b3.trans (hb4.mono b3.size)
        have hRR : (R != R) = false := by simp
        go_wp2_with (fail)
        refine (toStringS_any A M c v4 (HM.out _ b4) hn).mono ?_
        rintro e v5 ⟨g3, c3, rfl, hR3, hb5⟩
        have b5 := b4.trans (hb5.mono b4.size)
        go_wp2_with (fail)
        refine (eqStringS_same (some ⟨g2, 0, none⟩) (some ⟨g3, 0, none⟩) M c2 c3 v5 ((hR2.below hb4).below hb5).strs hR3.strs).mono ?_
        rintro e v6 ⟨rfl, hb6⟩
        go_wp2
        go_ret
        exact ⟨rfl, b5.trans (hb6.mono b5.size)⟩
    · go_enter Tryd.func6, Tryd.ntmps6
      go_wp2
      go_ret
      exact ⟨rfl, Below.refl _ _⟩
  · go_enter Tryd.func6, Tryd.ntmps6
    go_wp2
    go_ret
    exact ⟨rfl, Below.refl _ _⟩
end Go.Proofs.YtodnmbppgjbpmaaDoor
