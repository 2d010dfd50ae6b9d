/- The walk of the law FnAuth. -/
import Derived.Test.YtodnmbppgjbpmaaDoorAuGW
import Derived.Test.YtodnmbppgjbpmaaDoorLwTW
namespace Go.Proofs.YtodnmbppgjbpmaaDoor
open Go.RowKit
set_option linter.unusedVariables false
set_option maxRecDepth 1000000

theorem vg_of_vec {s t : ByteArray} {f : Int} (h : 0 < (vecO s f t).length) (k : Nat) (hk : k < 4) : vgB s f (k : Int) t (vecO s f t) = ((k : Int) != f) := by
  have hc : t.size ≤ 20000 ∧ Sec s ∧ Who f := by
    by_cases hc : t.size ≤ 20000 ∧ Sec s ∧ Who f
    · exact hc
    · rw [vecO_out hc] at h; exact absurd h (by simp)
  have hv := vecO_in hc
  have hf := hc.2.2
  unfold Who at hf
  by_cases e : f = (k : Int)
  · rw [vgB_out (fun g => g.1.2.2.2 e), e]; simp
  · have hl : (vecO s f t).length = 4 := by rw [hv, vecB_len]
    have hg : (Sec s ∧ Who f ∧ Who (k : Int) ∧ f ≠ (k : Int)) ∧ t.size ≤ 20000 ∧ (vecO s f t).length = 4 := ⟨⟨hc.2.1, hc.2.2, by unfold Who; omega, e⟩, hc.1, hl⟩
    rw [vgB_in hg (by simp; omega)]
    have hx : (vecO s f t)[(k : Int).toNat]'(by simp; omega) = codeB s f.toNat k t := by
      simp only [hv, Int.toNat_natCast]
      exact vecB_get hk
    rw [hx]
    have : ((k : Int) != f) = true := by simp; exact fun h => e h.symm
    rw [this]; simp

theorem wf_of {v : Int} (h : -9223372036854775808 ≤ v ∧ v ≤ 9223372036854775807) : (Lit.int .i64 v).wf = true := by
  simpa [Lit.wf, IntKind.min, IntKind.max, IntKind.signed, IntKind.bits] using h
set_option maxHeartbeats 16000000 in
theorem lawAuthIn (A1 A2 : Option Addr) (n1 n2 c1 c2 : Nat) (w : World) (h1 : Bts w w.heap.size A1 n1) (h2 : Bts w w.heap.size A2 n2) (hK : Keys w) (hw : 2 < w.heap.size) :
    Calls Tryd.prog 3 #[.slice A1 n1 c1, .slice A2 n2 c2] w fun e w' => e = .returned (.bool true) ∧ Below w.heap.size w w' := by
  have l1 := h1.1
  have l2 := h2.1
  have b1 : decide (1048576 < (n1 : Int)) = false := by simp; omega
  have b2 : decide (1048576 < (n2 : Int)) = false := by simp; omega
  have H1 := Lib.hid (fun W (h : Below w.heap.size w W) => bts_below h1 h)
  have H2 := Lib.hid (fun W (h : Below w.heap.size w W) => bts_below h2 h)
  have HK := Lib.hid (fun W (h : Below w.heap.size w W) => hK.below h hw)
  have HW := Lib.hid (fun W (h : Below w.heap.size w W) => Nat.lt_of_lt_of_le hw h.size)
  clear h1 h2 hK hw
  go_enter Tryd.func3, Tryd.ntmps3
  go_wp2_with (fail)
  refine (drawPairKey_any A1 n1 c1 _ (H1.out _ (Below.refl _ _))).mono ?_
  rintro e v1 ⟨k, a, b, rfl, hk, w1⟩
  have PK := Lib.hid (fun W (h : Below w.heap.size w W) => implPairKey_any k a b W (by unfold maxLen; omega) (HK.out W h) (HW.out W h))
  have PQ := Lib.hid (fun W (h : Below w.heap.size w W) => implPairKey_any k b a W (by unfold maxLen; omega) (HK.out W h) (HW.out W h))
  have PS := Lib.hid (fun W => specPairKey_any k a b W (by unfold maxLen; omega))
  rw [keyB_comm k b a] at PQ
  generalize keyB k a b = key at PK PQ PS
  have hkk : (key.toList != key.toList) = false := by simp
  go_wp2_with (fail)
  refine (PK.out _ w1).mono ?_
  rintro e v2 ⟨rfl, d2⟩
  have w2 := w1.trans (d2.mono w1.size)
  clear d2 w1
  go_wp2_with (fail)
  refine (PS.out _).mono ?_
  rintro e v3 ⟨rfl, d3⟩
  have w3 := w2.trans (d3.mono w2.size)
  clear d3 w2
  go_wp2_with (fail)
  refine (PK.out _ w3).mono ?_
  rintro e v4 ⟨rfl, d4⟩
  have w4 := w3.trans (d4.mono w3.size)
  clear d4 w3
  go_wp2_with (fail)
  refine (PQ.out _ w4).mono ?_
  rintro e v5 ⟨rfl, d5⟩
  have w5 := w4.trans (d5.mono w4.size)
  clear d5 w4 PK PS PQ
  go_wp2_with (fail)
  clear hkk
  refine (drawVector_any A1 n1 c1 _ (H1.out _ w5)).mono ?_
  rintro e v6 ⟨s, f, t, rfl, hs, hf, ht, d6⟩
  have w6 := w5.trans (d6.mono w5.size)
  clear d6 w5
  have IV := Lib.hid (fun W (h : Below w.heap.size w W) => implVector_any s f t W (by unfold maxLen; omega) (by unfold maxLen; omega) (HK.out W h) (HW.out W h))
  have SV := Lib.hid (fun W => specVector_any s f t W (by unfold maxLen; omega) (by unfold maxLen; omega))
  have VG := Lib.hid (fun A M c W (h : Below w.heap.size w W) hM (d : Int) => implVG_any s f d t A M c W (by unfold maxLen; omega) (by unfold maxLen; omega) hM (HK.out W h) (HW.out W h))
  have VV := Lib.hid (fun h k hk => vg_of_vec (s := s) (t := t) (f := f) h k hk)
  have hV4 := vecO_len s f t
  generalize vecO s f t = L at IV SV VV hV4
  go_wp2_with (fail)
  refine (IV.out _ w6).mono ?_
  rintro e v7 ⟨A7, c7, rfl, hO7, d7⟩
  have w7 := w6.trans (d7.mono w6.size)
  have S7 := hO7.strs.2
  clear d7 w6 hO7
  go_wp2_with (fail)
  refine (SV.out _).mono ?_
  rintro e v8 ⟨A8, c8, rfl, hO8, d8⟩
  have w8 := w7.trans (d8.mono w7.size)
  have S8 := hO8.strs.2
  have T8 := (S7.below d8 (Nat.le_refl _)).mono d8.size
  clear d8 w7 hO8 S7 IV SV
  go_wp2_with (fail)
  refine (lwTexts_n A7 A8 L L.length c7 c8 _ rfl T8 S8).mono ?_
  rintro e v9 ⟨rfl, m9, rfl⟩
  have w9 := below_drewN w8 m9
  have T9 : Strs (v8.drewN m9) (v8.drewN m9).heap.size A7 L := T8
  clear w8 T8 S8
  go_wp2_with (fail)
  generalize v8.drewN m9 = v9 at w9 T9 ⊢
  go_loopw [12] (fun i wr => ∃ q : Nat, q ≤ 4 ∧ i = .int .i64 q ∧ Below w.heap.size w wr ∧ Strs wr wr.heap.size A7 L) (fun i _ => 4 - (intOf i).toNat)
  case atStart => exact ⟨0, by omega, rfl, w9, T9⟩
  case round =>
    clear w9 T9
    obtain ⟨q, hq, rfl, wr0, hT⟩ := hrel
    rcases (show (0 < L.length ∧ q < 4) ∨ (0 < L.length ∧ q = 4) ∨ (L.length = 0 ∧ q < 4) ∨ (L.length = 0 ∧ q = 4) by omega) with ⟨hl, hlt⟩ | ⟨hl, rfl⟩ | ⟨hl, hlt⟩ | ⟨hl, rfl⟩
    focus
      have hl' : (0 : Int) < (L.length : Int) := by omega
      have hlt' : (q : Int) < 4 := by omega
      have HG := Lib.hid (VG.out A7 L c7 wr wr0 hT (q : Int))
      rw [VV.out hl q hlt] at HG
      obtain ⟨bo, HB⟩ : ∃ bo, Hid (((q : Int) != f) = bo) := ⟨_, Lib.hid rfl⟩
      have hbb : (bo != bo) = false := by simp
      rw [HB.out] at HG
      clear hl
      go_wp2_with (go_at_call 15; refine HG.out.mono ?_; rintro e x1 ⟨rfl, e1⟩; have hB' := HB.out)
      exact ⟨⟨q + 1, by omega, by go_num, wr0.trans (e1.mono wr0.size), (hT.below e1 (Nat.le_refl _)).mono e1.size⟩, by simp [intOf]; omega⟩
    focus
      have hl' : (0 : Int) < (L.length : Int) := by omega
      clear hl VV VG hT hs hf ht
      go_wp2_with (fail)
      clear hl'
    rotate_left
    focus
      have hl' : ¬ (0 : Int) < (L.length : Int) := by omega
      have hlt' : (q : Int) < 4 := by omega
      clear hl VV VG hT hs hf ht hlt
      go_wp2_with (fail)
      clear hl' hlt'
    rotate_left
    focus
      have hl' : ¬ (0 : Int) < (L.length : Int) := by omega
      clear hl VV VG hT hs hf ht
      go_wp2_with (fail)
      clear hl'
    all_goals
      clear hV4 hq
      refine (drawVectorGood_any A2 n2 c2 _ (H2.out _ wr0)).mono ?_
      rintro e x1 ⟨u, xa, xb, tx, AM, M, cM, rfl, hu, htx, hM, e1⟩
      have z1 := wr0.trans (e1.mono wr0.size)
      have XI := Lib.hid (fun W (h : Below w.heap.size w W) hM => implVG_any u xa xb tx AM M cM W (by unfold maxLen; omega) (by unfold maxLen; omega) hM (HK.out W h) (HW.out W h))
      have XS := Lib.hid (fun W hM => specVG_any u xa xb tx AM M cM W (by unfold maxLen; omega) (by unfold maxLen; omega) hM)
      generalize vgB u xa xb tx M = r at XI XS
      clear e1 wr0
      go_wp2_with (fail)
      refine (drawLeader_any A2 n2 c2 _ (H2.out _ z1)).mono ?_
      rintro e x2 ⟨ld, rfl, hld, e2⟩
      have z2 := z1.trans (e2.mono z1.size)
      have M2 := (hM.below e2 (Nat.le_refl _)).mono e2.size
      have hlw : (Lit.int .i64 ld).wf = true := wf_of hld
      obtain ⟨lr, HLD⟩ : ∃ x, Hid (leadI ld = x) := ⟨_, Lib.hid rfl⟩
      have LS := Lib.hid (fun W => specLeader_any ld W hlw)
      have LI := Lib.hid (fun W => implLeader_any ld W hlw)
      rw [HLD.out] at LS LI
      clear e2 z1 hM hld hlw HLD hu htx
      go_wp2_with (fail)
      refine (drawQuorum_any A1 n1 c1 _ (H1.out _ z2)).mono ?_
      rintro e x3 ⟨AP, P, cP, rfl, hP, lP, e3⟩
      have z3 := z2.trans (e3.mono z2.size)
      have M3 := (M2.below e3 (Nat.le_refl _)).mono e3.size
      clear e3 z2 M2
      go_wp2_with (fail)
      refine (drawQuorum_any A2 n2 c2 _ (H2.out _ z3)).mono ?_
      rintro e x4 ⟨AQ, Q, cQ, rfl, hQ, lQ, e4⟩
      have z4 := z3.trans (e4.mono z3.size)
      have M4 := (M3.below e4 (Nat.le_refl _)).mono e4.size
      have P4 := (hP.below e4 (Nat.le_refl _)).mono e4.size
      have HP := Lib.hid (fun W (h : Below x4.heap.size x4 W) => (P4.below h (Nat.le_refl _)).mono h.size)
      have HQ := Lib.hid (fun W (h : Below x4.heap.size x4 W) => (hQ.below h (Nat.le_refl _)).mono h.size)
      have HSH := Lib.hid (quorums_share (P := P) (Q := Q))
      have IP := Lib.hid (fun W (h : Below x4.heap.size x4 W) => implQuorum_any AP P cP W (HP.out W h))
      have SP := Lib.hid (fun W (h : Below x4.heap.size x4 W) => specQuorum_any AP P cP W (HP.out W h))
      have IQ := Lib.hid (fun W (h : Below x4.heap.size x4 W) => implQuorum_any AQ Q cQ W (HQ.out W h))
      generalize quorum P = qp at IP SP HSH
      generalize quorum Q = qq at IQ HSH
      clear e4 z3 M3 P4 hQ hP
      have hrr : (r != r) = false := by simp
      have hqq : (qp != qp) = false := by simp
      have hll : (lr != lr) = false := by simp
      go_wp2_with (fail)
      refine (XI.out _ z4 M4).mono ?_
      rintro e x5 ⟨rfl, e5⟩
      have M5 := (M4.below e5 (Nat.le_refl _)).mono e5.size
      go_wp2_with (fail)
      refine (XS.out _ M5).mono ?_
      rintro e x6 ⟨rfl, e6⟩
      have e6' := e5.trans (e6.mono e5.size)
      clear M4 M5 e5 e6 XI XS
      go_wp2_with (fail)
      refine (LI.out _).mono ?_
      rintro e x7 ⟨rfl, rfl⟩
      go_wp2_with (fail)
      refine (LS.out _).mono ?_
      rintro e x7 ⟨rfl, rfl⟩
      go_wp2_with (fail)
      refine (IP.out _ e6').mono ?_
      rintro e x8 ⟨rfl, e8⟩
      have e8' := e6'.trans (e8.mono e6'.size)
      clear e8 e6'
      go_wp2_with (fail)
      refine (SP.out _ e8').mono ?_
      rintro e x9 ⟨rfl, e9⟩
      have e9' := e8'.trans (e9.mono e8'.size)
      clear e9 e8' SP LI LS
      go_wp2_with (fail)
      go_loopw [21, 22] (fun nn i wr => ∃ i0 : Nat, i0 ≤ P.length ∧ i = .int .i64 i0 ∧ nn = .int .i64 ((cnt2 (P.take i0) Q : Nat) : Int) ∧ Below x4.heap.size x4 wr) (fun _ i _ => P.length - (intOf i).toNat)
      case atStart => exact ⟨0, by omega, rfl, rfl, e9'⟩
      case round =>
        clear e9'
        obtain ⟨i0, hi0, rfl, rfl, y0⟩ := hrel
        have HS2 : Hid (∀ h : i0 < P.length, cnt2 (P.take (i0 + 1)) Q = cnt2 (P.take i0) Q + cnt1 P[i0] Q) := Lib.hid fun h => cnt2_step h
        have hcl : cnt2 (P.take i0) Q ≤ 25 := by
          have h1 := cnt2_le (P.take i0) Q
          have h2 : (P.take i0).length ≤ 5 := by rw [List.length_take]; omega
          exact Nat.le_trans h1 (Nat.le_trans (Nat.mul_le_mul h2 lQ) (by decide))
        have HEND : Hid (i0 = P.length → cnt2 (P.take i0) Q = cnt2 P Q) := Lib.hid fun h => by rw [h, List.take_length]
        obtain ⟨cb, HCB⟩ : ∃ x, Hid (cnt2 (P.take i0) Q = x) := ⟨_, Lib.hid rfl⟩
        rw [HCB.out] at HS2 hcl HEND ⊢
        rcases (show i0 < P.length ∨ i0 = P.length by omega) with hlt | hend
        · have hlt' : (i0 : Int) < (P.length : Int) := by omega
          have HS3 := Lib.hid (HS2.out hlt)
          obtain ⟨px, HPX⟩ : ∃ x, Hid (P[i0] = x) := ⟨_, Lib.hid rfl⟩
          rw [HPX.out] at HS3
          clear HS2 HEND HCB
          go_wp2_with (fail)
          go_loopw [21, 23] (fun nn j wr => ∃ j0 : Nat, j0 ≤ Q.length ∧ j = .int .i64 j0 ∧ nn = .int .i64 ((cb + cnt1 px (Q.take j0) : Nat) : Int) ∧ Below x4.heap.size x4 wr) (fun _ j _ => Q.length - (intOf j).toNat)
          case atStart => exact ⟨0, by omega, rfl, by simp [cnt1], y0⟩
          case round =>
            clear y0
            obtain ⟨j0, hj0, rfl, rfl, yy⟩ := hrel
            have HT1 : Hid (∀ h : j0 < Q.length, cnt1 px (Q.take (j0 + 1)) = cnt1 px (Q.take j0) + (if px = Q[j0] then 1 else 0)) := Lib.hid fun h => cnt1_step h
            have hdl : cnt1 px (Q.take j0) ≤ 5 := Nat.le_trans (cnt1_le _ _) (by rw [List.length_take]; omega)
            have HTE : Hid (j0 = Q.length → cnt1 px (Q.take j0) = cnt1 px Q) := Lib.hid fun h => by rw [h, List.take_length]
            obtain ⟨cd, HCD⟩ : ∃ x, Hid (cnt1 px (Q.take j0) = x) := ⟨_, Lib.hid rfl⟩
            rw [HCD.out] at HT1 hdl HTE ⊢
            rcases (show j0 < Q.length ∨ j0 = Q.length by omega) with hjt | hje
            · have hjt' : (j0 : Int) < (Q.length : Int) := by omega
              obtain ⟨pa, e1, _, pc, _⟩ := (HP.out _ yy).2 i0 hlt
              obtain ⟨qa, e2, _, qc, _⟩ := (HQ.out _ yy).2 j0 hjt
              subst e1
              subst e2
              have HT2 := Lib.hid (HT1.out hjt)
              obtain ⟨qx, HQX⟩ : ∃ x, Hid (Q[j0] = x) := ⟨_, Lib.hid rfl⟩
              rw [HQX.out] at HT2 qc
              rw [HPX.out] at pc
              clear HT1 HTE HCD
              by_cases hpq : px = qx
              · have hc : (px == qx) = true := by simp; exact hpq
                have HT3 : Hid (cnt1 px (Q.take (j0 + 1)) = cd + 1) := Lib.hid (by rw [HT2.out, if_pos hpq])
                clear hpq HT2
                go_wp2_with (fail)
                go_quiet (fail)
                go_wp2
                exact ⟨⟨j0 + 1, by omega, by go_num, by rw [HT3.out]; go_num, below_drewN yy _⟩, by simp [intOf]; omega⟩
              · have hc : (px == qx) = false := by simp; exact hpq
                have HT3 : Hid (cnt1 px (Q.take (j0 + 1)) = cd) := Lib.hid (by rw [HT2.out, if_neg hpq]; omega)
                clear hpq HT2
                go_wp2_with (fail)
                go_quiet (fail)
                go_wp2
                exact ⟨⟨j0 + 1, by omega, by go_num, by rw [HT3.out], below_drewN yy _⟩, by simp [intOf]; omega⟩
            · have hje' : ¬ (j0 : Int) < (Q.length : Int) := by omega
              have HT4 : Hid (cnt2 (P.take (i0 + 1)) Q = cb + cd) := Lib.hid (by rw [HS3.out, HTE.out hje])
              clear HT1 HTE HCD hje
              go_wp2
              exact ⟨⟨i0 + 1, by omega, by go_num, by rw [HT4.out], yy⟩, by simp [intOf]; omega⟩
        · have hend' : ¬ (i0 : Int) < (P.length : Int) := by omega
          have HC := Lib.hid (HEND.out hend)
          rw [← HC.out] at HSH
          have hwz := z4
          clear HS2 HEND HCB hend HC hcl
          cases qp
          · go_wp2_with (go_at_call 22; refine (IP.out _ y0).mono ?_; rintro e x10 ⟨rfl, e10⟩)
            go_ret
            exact ⟨rfl, z4.trans ((y0.trans (e10.mono y0.size)).mono z4.size)⟩
          · cases qq
            · go_wp2_with (fail)
              refine (IP.out _ y0).mono ?_
              rintro e x10 ⟨rfl, e10⟩
              have y1 := y0.trans (e10.mono y0.size)
              go_wp2_with (fail)
              refine (IQ.out _ y1).mono ?_
              rintro e x11 ⟨rfl, e11⟩
              go_wp2
              go_ret
              exact ⟨rfl, z4.trans ((y1.trans (e11.mono y1.size)).mono z4.size)⟩
            · have h2 := HSH.out rfl rfl
              have h2' : (2 : Int) ≤ (cb : Int) := by omega
              clear HSH
              go_wp2_with (fail)
              refine (IP.out _ y0).mono ?_
              rintro e x10 ⟨rfl, e10⟩
              have y1 := y0.trans (e10.mono y0.size)
              go_wp2_with (fail)
              refine (IQ.out _ y1).mono ?_
              rintro e x11 ⟨rfl, e11⟩
              go_wp2
              go_ret
              exact ⟨rfl, z4.trans ((y1.trans (e11.mono y1.size)).mono z4.size)⟩
set_option maxHeartbeats 4000000 in
theorem lawAuthBig (A1 A2 : Option Addr) (n1 n2 c1 c2 : Nat) (w : World) (h : 1048576 < n1 ∨ 1048576 < n2) (hn1 : n1 ≤ maxLen) (hn2 : n2 ≤ maxLen) :
    Calls Tryd.prog 3 #[.slice A1 n1 c1, .slice A2 n2 c2] w fun e w' => e = .returned (.bool true) ∧ Below w.heap.size w w' := by
  unfold maxLen at hn1 hn2
  by_cases k1 : 1048576 < n1 <;> by_cases k2 : 1048576 < n2 <;> try omega
  all_goals
    go_enter Tryd.func3, Tryd.ntmps3
    go_wp2
    go_ret
    exact ⟨rfl, Below.refl _ _⟩
theorem lawAuthAll (A1 : Option Addr) (n1 c1 : Nat) (A2 : Option Addr) (n2 c2 : Nat) (w : World) (h1 : Byt w A1 n1) (h2 : Byt w A2 n2) (hK : Keys w) (hw : 2 < w.heap.size) :
    Calls Tryd.prog 3 #[.slice A1 n1 c1, .slice A2 n2 c2] w fun e w' => e = .returned (.bool true) ∧ Below w.heap.size w w' := by
  by_cases k1 : n1 ≤ 1048576
  · by_cases k2 : n2 ≤ 1048576
    · exact lawAuthIn A1 A2 n1 n2 c1 c2 w (h1.2 k1) (h2.2 k2) hK hw
    · exact lawAuthBig A1 A2 n1 n2 c1 c2 w (by omega) h1.1 h2.1
  · exact lawAuthBig A1 A2 n1 n2 c1 c2 w (by omega) h1.1 h2.1
end Go.Proofs.YtodnmbppgjbpmaaDoor
