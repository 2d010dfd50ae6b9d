/- The specification's Mac and Stretch, and the walks of the exact laws. Vector of the specification. What a call leaves that writes only into blocks from lo up to hi. The walk of the exact law of Vector. -/
import Derived.Test.YtodnmbppgjbpmaaDoorSpecShaW
import Derived.Test.YtodnmbppgjbpmaaDoorAuVW
import Derived.Test.YtodnmbppgjbpmaaDoorStrW
namespace Go.Proofs.YtodnmbppgjbpmaaDoor
open Go.RowKit
set_option linter.unusedVariables false

set_option maxHeartbeats 1600000 in
set_option maxRecDepth 1000000 in
theorem padSpec_any (key : ByteArray) (p : Int) (w : World) (hs : key.size ≤ 64) (p0 : 0 ≤ p) (p1 : p ≤ 255) :
    Calls Tryd.prog 75 #[.string key, .int .u8 p] w fun e w' => e = .returned (.string (padS key p)) ∧ Below w.heap.size w w' := by
  have hmk := mk64
  have hb0 : Hid (Blk (w.alloc (.cells (zeros8 64).toArray 5)) w.heap.size 5 (zeros8 64)) := Blk.fresh w _ _
  go_enter Tryd.func75, Tryd.ntmps75
  go_wp2_with (with_reducible refine wpList_copy_str rfl (.tmp 8) (.tmp 9) 22 9 rfl 5 Tryd.underlying22 sizeU8 _ _ _ key rfl rfl w.heap.size 0 _ 5 hb0.out.heap (by omega) (fun _ => rfl) (by rw [zeros8_len]; omega) w.heap.size w ((Below.refl _ _).alloc (Nat.le_refl _) _) (Nat.le_refl _) ?_; intro w2 HG2 hb2)
  have hB0 : Blk w2 w.heap.size 5 (ints .u8 64 (padto key p 0)) := by
    have := HG2.out
    rw [padto_zero key p hs] at this
    exact this
  go_loopw [6] (fun i wr => ∃ (k : Nat), k ≤ 64 ∧ i = .int .i64 k ∧ Blk wr w.heap.size 5 (ints .u8 64 (padto key p k)) ∧ Below w.heap.size w wr) (fun i _ => 64 - (intOf i).toNat)
  case atStart => exact ⟨0, by omega, rfl, hB0, hb2⟩
  case round =>
    clear hB0 HG2 hb2
    obtain ⟨k, hk, rfl, hB, hb⟩ := hrel
    by_cases hlt : k < 64
    · have hp := hB.put k (.int .u8 (bits .xor .u8 (byteI key k) p))
      rw [padto_set key p k hlt] at hp
      have e0 : padto key p k k = byteI key k := by unfold padto; rw [if_neg (by omega)]
      have c1 := hB.cell (ints_get (f := padto key p k) (i := k) hlt)
      rw [e0] at c1
      clear e0
      have f1 := hB.froz k
      have hlt' : (k : Int) < 64 := by omega
      have HP := Lib.hid hp
      clear hp
      go_wp2
      exact ⟨⟨k + 1, by omega, by go_num, HP.out, hb.setCell (Nat.le_refl _) _⟩, by simp [intOf]; omega⟩
    · obtain rfl : k = 64 := by omega
      rw [padto_all] at hB
      have hcv : (convert 22 9 (.slice (some ⟨w.heap.size, 0, none⟩) 64 64)).run Tryd.prog wr = .ok (.string (padS key p)) wr := conv_ints (by omega) hB
      go_wp2
      go_ret
      exact ⟨rfl, hb⟩

set_option maxHeartbeats 1600000 in
theorem macSpec_any (key t : ByteArray) (w : World) (hk : key.size ≤ 20000) (hs : t.size ≤ 20000) :
    Calls Tryd.prog 49 #[.string key, .string t] w fun e w' => e = .returned (.string (mac key t)) ∧ Below w.heap.size w w' := by
  obtain ⟨sk, HSK⟩ : ∃ sk, Hid (shortKey key = sk) := ⟨_, Lib.hid rfl⟩
  have hsk : sk.size ≤ 64 := by rw [← HSK.out]; exact shortKey_size key
  have HM : Hid (mac key t = sha (padS sk 92 ++ sha (padS sk 54 ++ t))) := by unfold Hid mac; rw [HSK.out]
  obtain ⟨p1, HP1⟩ : ∃ p1, Hid (padS sk 54 = p1) := ⟨_, Lib.hid rfl⟩
  obtain ⟨p2, HP2⟩ : ∃ p2, Hid (padS sk 92 = p2) := ⟨_, Lib.hid rfl⟩
  have hp1 : p1.size ≤ 64 := by rw [← HP1.out, padS_size]; omega
  have hp2 : p2.size ≤ 64 := by rw [← HP2.out, padS_size]; omega
  obtain ⟨d, HD⟩ : ∃ d, Hid (sha (p1 ++ t) = d) := ⟨_, Lib.hid rfl⟩
  have hd : d.size ≤ 32 := by rw [← HD.out, sha_size]; omega
  rw [HP1.out, HP2.out, HD.out] at HM
  have hpt : (p1 ++ t).size ≤ 100000 := by rw [ByteArray.size_append]; omega
  have hpd : (p2 ++ d).size ≤ 100000 := by rw [ByteArray.size_append]; omega
  have HPT := Lib.hid hpt
  have HPD := Lib.hid hpd
  clear hpt hpd
  by_cases h64 : key.size ≤ 64
  · obtain rfl : key = sk := by rw [← HSK.out]; unfold shortKey; rw [if_pos h64]
    go_enter Tryd.func49, Tryd.ntmps49
    go_wp2_with (fail)
    refine (padSpec_any key 92 _ h64 (by omega) (by omega)).mono ?_
    rintro e w1 ⟨rfl, hb1⟩
    rw [HP2.out]
    have hz1 := hb1.size
    go_wp2_with (fail)
    refine (padSpec_any key 54 _ h64 (by omega) (by omega)).mono ?_
    rintro e w2 ⟨rfl, hb2⟩
    rw [HP1.out]
    have hz2 := hb2.size
    go_wp2_with (fail)
    refine (all_any (p1 ++ t) _ HPT.out).mono ?_
    rintro e w3 ⟨rfl, hb3⟩
    rw [HD.out]
    have hz3 := hb3.size
    go_wp2_with (fail)
    refine (all_any (p2 ++ d) _ HPD.out).mono ?_
    rintro e w4 ⟨rfl, hb4⟩
    go_wp2
    go_ret
    exact ⟨retS HM.out.symm, hb1.trans ((hb2.mono hz1).trans ((hb3.mono (Nat.le_trans hz1 hz2)).trans (hb4.mono (Nat.le_trans hz1 (Nat.le_trans hz2 hz3)))))⟩
  · have HS : Hid (sha key = sk) := by unfold Hid; rw [← HSK.out]; unfold shortKey; rw [if_neg h64]
    go_enter Tryd.func49, Tryd.ntmps49
    go_wp2_with (fail)
    refine (all_any key _ (by omega)).mono ?_
    rintro e w0 ⟨rfl, hb0⟩
    rw [HS.out]
    have hz0 := hb0.size
    go_wp2_with (fail)
    refine (padSpec_any sk 92 _ hsk (by omega) (by omega)).mono ?_
    rintro e w1 ⟨rfl, hb1⟩
    rw [HP2.out]
    have hz1 := hb1.size
    go_wp2_with (fail)
    refine (padSpec_any sk 54 _ hsk (by omega) (by omega)).mono ?_
    rintro e w2 ⟨rfl, hb2⟩
    rw [HP1.out]
    have hz2 := hb2.size
    go_wp2_with (fail)
    refine (all_any (p1 ++ t) _ HPT.out).mono ?_
    rintro e w3 ⟨rfl, hb3⟩
    rw [HD.out]
    have hz3 := hb3.size
    go_wp2_with (fail)
    refine (all_any (p2 ++ d) _ HPD.out).mono ?_
    rintro e w4 ⟨rfl, hb4⟩
    go_wp2
    go_ret
    exact ⟨retS HM.out.symm, hb0.trans ((hb1.mono hz0).trans ((hb2.mono (Nat.le_trans hz0 hz1)).trans ((hb3.mono (Nat.le_trans hz0 (Nat.le_trans hz1 hz2))).trans (hb4.mono (Nat.le_trans hz0 (Nat.le_trans hz1 (Nat.le_trans hz2 hz3)))))))⟩

end Go.Proofs.YtodnmbppgjbpmaaDoor

namespace Go.Proofs.YtodnmbppgjbpmaaDoor
open Go.RowKit
set_option linter.unusedVariables false
set_option maxRecDepth 1000000

theorem code_self (k : ByteArray) (n : Nat) (t : ByteArray) : codeB k n n t = ⟨#[]⟩ := if_pos rfl
theorem code_other {k : ByteArray} {n j : Nat} {t : ByteArray} (h : ¬ j = n) : codeB k n j t = cutB (pairB k n j) t := by unfold codeB; rw [if_neg h, pairB_comm]
theorem vecB_zero (k : ByteArray) (n : Nat) (t : ByteArray) : vecB k n t 0 = [] := rfl

set_option maxHeartbeats 4000000 in
theorem specVector_any (k : ByteArray) (f : Int) (t : ByteArray) (w : World) (hk : k.size ≤ maxLen) (ht : t.size ≤ maxLen) :
    Calls Tryd.prog 14 #[.string k, .int .i64 f, .string t] w fun e w' => ∃ A c, e = .returned (.slice A (vecO k f t).length c) ∧ OwnS w' w.heap.size (.slice A (vecO k f t).length c) (vecO k f t) ∧ Below w.heap.size w w' := by
  obtain ⟨i0, hi, hz0, hz1, hz2⟩ := info_parts infoStr
  have HI := Lib.hid (vecO_in (k := k) (f := f) (t := t))
  have HO := Lib.hid (vecO_out (k := k) (f := f) (t := t))
  have hb0 : Below w.heap.size w (w.alloc (.cells #[] 9)) := (Below.refl _ _).alloc (Nat.le_refl _) _
  have HO0 : Hid (OwnS (w.alloc (.cells #[] 9)) w.heap.size (.slice (some ⟨w.heap.size, 0, none⟩) 0 0) []) :=
    ⟨rfl, .inr ⟨w.heap.size, 0, #[], rfl, Nat.le_refl _, by have := heap_alloc_new w (.cells #[] 9); simpa using this, Nat.le_refl _, by simp [maxLen], rfl, rfl⟩⟩
  have hk' := hk
  have ht' := ht
  unfold maxLen at hk' ht'
  generalize vecO k f t = R at HI HO ⊢
  by_cases hl : 20000 < t.size
  · obtain rfl := HO.out (fun h => by omega)
    go_enter Tryd.func14, Tryd.ntmps14
    go_wp2
    go_ret
    exact ⟨_, _, rfl, HO0.out, hb0⟩
  · have hl' : t.size ≤ 20000 := by omega
    by_cases h1 : 1 ≤ k.size
    · by_cases h2 : k.size ≤ 60
      · rcases Bool.eq_false_or_eq_true (decide (Who f)) with ha | ha
        · have ha' := of_decide_eq_true ha
          have HE := Lib.hid (HI.out ⟨hl', ⟨h1, h2⟩, ha'⟩)
          clear HI HO
          have hwho := ha'
          unfold Who at ha'
          obtain ⟨n, rfl⟩ : ∃ n : Nat, f = n := ⟨f.toNat, by omega⟩
          have hn : n ≤ 3 := by omega
          have q1 : decide ((k.size : Int) < 1) = false := by simp; omega
          have q2 : decide (60 < (k.size : Int)) = false := by simp; omega
          have q3 : decide (20000 < (t.size : Int)) = false := by simp; omega
          have HE2 : Hid (R = vecB k n t 4) := Lib.hid (by rw [HE.out]; rfl)
          clear HE
          have HR4 : Hid (R.length = 4) := Lib.hid (by rw [HE2.out, vecB_len])
          go_enter Tryd.func14, Tryd.ntmps14
          go_wp2_with (go_at_call 40; refine (who_any ha _).mono ?_; rintro e w1 ⟨rfl, rfl⟩)
          go_loopw [7, 8] (fun v i wr => ∃ j : Nat, j ≤ 4 ∧ i = .int .i64 j ∧ OwnS wr w.heap.size v (vecB k n t j) ∧ Below w.heap.size w wr) (fun _ i _ => 4 - (intOf i).toNat)
          case atStart => exact ⟨0, by omega, rfl, HO0.out, hb0⟩
          case round =>
            obtain ⟨j, hj, rfl, hO, hb⟩ := hrel
            by_cases hlt : j < 4
            · have hlt' : (j : Int) < 4 := by omega
              have HS := Lib.hid (vecB_succ k n t j)
              have HLj := Lib.hid (vecB_len k n t j)
              obtain ⟨V, HV⟩ : ∃ V, Hid (vecB k n t j = V) := ⟨_, Lib.hid rfl⟩
              rw [HV.out] at hO HS HLj
              have hVl : V.length ≤ 4 := by rw [HLj.out]; omega
              by_cases hjn : j = n
              · have hc : ((j : Int) == (n : Int)) = true := by simp; omega
                have HS2 : Hid (vecB k n t (j + 1) = V ++ [⟨#[]⟩]) := Lib.hid (by rw [HS.out, hjn, code_self])
                clear hjn
                have hrow := hO
                unfold OwnS at hrow
                go_wp2_with (at_builtin; refine wpList_append_own _ rfl _ _ 28 rfl w.heap.size 9 i0 (.string ⟨#[]⟩) 1 16 Tryd.underlying28 hi hz0 hz1 hz2 rfl (by decide) _ _ _ rfl (World.ownsRow.alloc hrow _) ⟨wr.heap.size, 0, none⟩ 1 1 [.string ⟨#[]⟩] rfl rfl (one_cell _ _ _) (one_str _) (by unfold maxLen; omega) (by omega) (by have := hb.size; rw [World.size_alloc]; omega) ?_; intro v' w2 hO2 hg2 hne2)
                refine ⟨⟨j + 1, by omega, by go_num, ?_, below_apps hb (Nat.le_refl _) hrow (Nat.le_refl _) hg2⟩, by simp [intOf]; omega⟩
                rw [HS2.out]
                exact ownS_snoc hO2
              · have hc : ((j : Int) == (n : Int)) = false := by simp; omega
                obtain ⟨key, HKy⟩ : ∃ x, Hid (pairB k n j = x) := ⟨_, Lib.hid rfl⟩
                have hks : key.size = 32 := by rw [← HKy.out, pairB_size]
                obtain ⟨m, HM⟩ : ∃ m, Hid (mac key t = m) := ⟨_, Lib.hid rfl⟩
                have hm : m.size = 32 := by rw [← HM.out, mac_size]
                have hm8 : (8 : Int) ≤ (m.size : Int) := by omega
                have HS2 : Hid (vecB k n t (j + 1) = V ++ [m.extract 0 8]) := Lib.hid (by rw [HS.out, code_other hjn, HKy.out]; unfold cutB; rw [HM.out])
                have hwj : Who (j : Int) := by unfold Who; omega
                have HP := Lib.hid (specPairKey_any k n j wr hk)
                rw [keyB_in ⟨⟨h1, h2⟩, hwho, hwj, by omega⟩] at HP
                simp only [Int.toNat_natCast, HKy.out] at HP
                have HMC := Lib.hid (fun W => macSpec_any key t W (by omega) hl')
                rw [HM.out] at HMC
                clear hjn HS hwj
                have hrow := hO
                unfold OwnS at hrow
                go_wp2_with (first
                  | (go_at_call 10; refine HP.out.mono ?_; rintro e w1 ⟨rfl, hb1⟩)
                  | (go_at_call 49; refine (HMC.out _).mono ?_; rintro e w2 ⟨rfl, hb2⟩; have hb12 := hb1.trans (hb2.mono hb1.size); have hbw := hb.trans (hb12.mono hb.size); have hrow2 := row_below hrow hb12 (Nat.le_refl _))
                  | (at_builtin; refine wpList_append_own _ rfl _ _ 28 rfl w.heap.size 9 i0 (.string ⟨#[]⟩) 1 16 Tryd.underlying28 hi hz0 hz1 hz2 rfl (by decide) _ _ _ rfl (World.ownsRow.alloc hrow2 _) ⟨w2.heap.size, 0, none⟩ 1 1 [.string (m.extract 0 8)] rfl rfl (one_cell _ _ _) (one_str _) (by unfold maxLen; omega) (by omega) (by have := hbw.size; rw [World.size_alloc]; omega) ?_; intro v' w3 hO2 hg2 hne2))
                refine ⟨⟨j + 1, by omega, by go_num, ?_, below_apps hbw (Nat.le_refl _) hrow2 (Nat.le_refl _) hg2⟩, by simp [intOf]; omega⟩
                rw [HS2.out]
                exact ownS_snoc hO2
            · obtain rfl : j = 4 := by omega
              rw [← HE2.out] at hO
              obtain ⟨A, c, rfl⟩ := ownS_some hO
              go_wp2
              go_ret
              exact ⟨A, c, rfl, hO, hb⟩
        · obtain rfl := HO.out (fun h => by have := decide_eq_true h.2.2; rw [ha] at this; cases this)
          go_enter Tryd.func14, Tryd.ntmps14
          go_wp2_with (go_at_call 40; refine (who_any ha _).mono ?_; rintro e w1 ⟨rfl, rfl⟩)
          go_ret
          exact ⟨_, _, rfl, HO0.out, hb0⟩
      · obtain rfl := HO.out (fun h => h2 h.2.1.2)
        go_enter Tryd.func14, Tryd.ntmps14
        go_wp2
        go_ret
        exact ⟨_, _, rfl, HO0.out, hb0⟩
    · obtain rfl := HO.out (fun h => h1 h.2.1.1)
      go_enter Tryd.func14, Tryd.ntmps14
      go_wp2
      go_ret
      exact ⟨_, _, rfl, HO0.out, hb0⟩
end Go.Proofs.YtodnmbppgjbpmaaDoor

namespace Go.Proofs.YtodnmbppgjbpmaaDoor
open Go.RowKit
set_option linter.unusedVariables false

structure Chg (w w' : World) (lo hi : Nat) : Prop where
  os : w'.os = w.os
  tape : w'.tape = w.tape
  output : w'.output = w.output
  size : w.heap.size ≤ w'.heap.size
  block : ∀ k, k < w.heap.size → (k < lo ∨ hi ≤ k) → w'.heap[k]? = w.heap[k]?
section
variable {w w' w2 : World} {lo hi lo' hi' : Nat}
theorem Chg.of {row : Option Nat} (h : w.grownBy w' row) (hr : ∀ k, row = some k → lo ≤ k ∧ k < hi) : Chg w w' lo hi :=
  ⟨h.os, h.tape, h.output, h.size, fun k hk ho => h.block k hk fun e => by have := hr k e.symm; omega⟩
theorem Chg.trans (h : Chg w w' lo hi) (h2 : Chg w' w2 lo hi) : Chg w w2 lo hi :=
  ⟨h2.os.trans h.os, h2.tape.trans h.tape, h2.output.trans h.output, Nat.le_trans h.size h2.size, fun k hk ho => (h2.block k (by have := h.size; omega) ho).trans (h.block k hk ho)⟩
theorem Chg.after (hb : Below w.heap.size w w') (h : Chg w' w2 lo hi) : Chg w w2 lo hi :=
  ⟨h.os.trans hb.os, h.tape.trans hb.tape, h.output.trans hb.output, Nat.le_trans hb.size h.size, fun k hk ho => (h.block k (by have := hb.size; omega) ho).trans (hb.block k hk)⟩
theorem Chg.thenB (h : Chg w w' lo hi) (hb : Below w'.heap.size w' w2) : Chg w w2 lo hi :=
  ⟨hb.os.trans h.os, hb.tape.trans h.tape, hb.output.trans h.output, Nat.le_trans h.size hb.size, fun k hk ho => (hb.block k (by have := h.size; omega)).trans (h.block k hk ho)⟩
theorem Blk.offC {g : Nat} {t : TypeId} {cs : List Value} (h : Blk w g t cs) (hc : Chg w w' lo hi) (ho : g < lo ∨ hi ≤ g) : Blk w' g t cs := (hc.block g h.lt ho).trans h
theorem Rw.farC {e : TypeId} {size n : Nat} {v : Value} {xs : List Value} (h : Rw w lo' hi' e size v n xs) (hc : Chg w w' lo hi) (ho : hi' ≤ lo ∨ hi ≤ lo') : Rw w' lo' hi' e size v n xs := by
  refine ⟨?_, h.2⟩
  cases hv : v.ownBlock with
  | none =>
    have hg : w.grownBy w v.ownBlock := ⟨rfl, rfl, rfl, Nat.le_refl _, fun _ _ _ => rfl⟩
    rcases h.1.2 with ⟨he, h0⟩ | ⟨g, cap, cur, he, _⟩
    · exact ⟨h.1.1, .inl ⟨he, h0⟩⟩
    · rw [he] at hv; cases hv
  | some k =>
    have h1 := h.at k hv
    rcases h.1.2 with ⟨he, h0⟩ | ⟨g, cap, cur, he, hb, hh, hr⟩
    · rw [he] at hv; cases hv
    · rw [he] at hv
      cases hv
      exact ⟨h.1.1, .inr ⟨g, cap, cur, he, hb, (hc.block g (h.1.lt g (by rw [he]; rfl)).2 (by simp at h1; omega)).trans hh, hr⟩⟩
theorem below_offC {B : Nat} {a : World} (h : Below B a w) (hc : Chg w w' lo hi) (ho : B ≤ lo) (hB : B ≤ a.heap.size) : Below B a w' :=
  ⟨hc.os.trans h.os, hc.tape.trans h.tape, hc.output.trans h.output, Nat.le_trans h.size hc.size, fun k hk => (hc.block k (by have := h.size; omega) (by omega)).trans (h.block k hk)⟩
end
end Go.Proofs.YtodnmbppgjbpmaaDoor

namespace Go.Proofs.YtodnmbppgjbpmaaDoor
open Go.RowKit
set_option linter.unusedVariables false
set_option maxRecDepth 1000000

theorem vecO_len (k : ByteArray) (f : Int) (t : ByteArray) : (vecO k f t).length ≤ 4 := by
  unfold vecO; split
  · rw [vecB_len]; exact Nat.le_refl _
  · simp

set_option maxHeartbeats 4000000 in
theorem lawVector (k : ByteArray) (f : Int) (t : ByteArray) (w : World) (w0 : k.size ≤ maxLen) (w1 : (Lit.int .i64 f).wf = true) (w2 : t.size ≤ maxLen) (hK : Keys w) (hw : 2 < w.heap.size) :
    Calls Tryd.prog 5 #[.string k, .int .i64 f, .string t] w fun e w' => e = .returned (.bool true) ∧ Below w.heap.size w w' := by
  have HK := Lib.hid (fun W (h : Below w.heap.size w W) => hK.below h hw)
  have hl := vecO_len k f t
  have SP := Lib.hid (fun W => specVector_any k f t W w0 w2)
  have IM := Lib.hid (fun W (h : Below w.heap.size w W) => implVector_any k f t W w0 w2 (HK.out W h) (Nat.lt_of_lt_of_le hw h.size))
  have hs := w0
  have ht := w2
  unfold maxLen at hs ht
  clear w0 w2
  generalize vecO k f t = R at SP IM hl
  by_cases h1 : k.size ≤ 1048576
  · by_cases h2 : t.size ≤ 1048576
    · go_enter Tryd.func5, Tryd.ntmps5
      go_wp2_with (fail)
      refine (SP.out _).mono ?_
      rintro e v1 ⟨A1, c1, rfl, hO1, hb1⟩
      have hz1 := hb1.size
      have R1 := Rw.of hO1
      clear hO1
      go_wp2_with (fail)
      refine (IM.out _ hb1).mono ?_
      rintro e v2 ⟨A2, c2, rfl, hO2, hb2⟩
      have hz2 := hb2.size
      have R2 := R1.below hb2
      have G2 := Rw.of hO2
      have hw2 := hb1.trans (hb2.mono hz1)
      clear hO2 R1 hb1
      go_wp2_with (fail)
      refine (eqStringS_same A2 A1 R c2 c1 _ G2.strs R2.strs).mono ?_
      rintro e v3 ⟨rfl, hb3⟩
      have hz3 := hb3.size
      have R3 := R2.below hb3
      have G3 := G2.below hb3
      have hw3 := hw2.trans (hb3.mono hw2.size)
      clear R2 G2 hw2
      have MG := markS_rw A2 R c2 _ _ 1 _ G3 (by omega) (by omega)
      have gr := G3.atA
      go_wp2_with (fail)
      refine MG.mono ?_
      rintro e v4 ⟨rfl, G4, hg⟩
      have hc4 := Chg.of hg gr
      have R4 := R3.farC hc4 (by omega)
      have hw4 := below_offC hw3 hc4 (by omega) (Nat.le_refl _)
      clear MG gr hg R3 G3 hw3 hc4
      go_wp2_with (fail)
      refine (heldStringS_any A2 R.length c2 1 _ G4.strs (by omega) (by omega)).mono ?_
      rintro e v5 ⟨rfl, hb5⟩
      have R5 := R4.below hb5
      have G5 := G4.below hb5
      have hw5 := hw4.trans (hb5.mono hw4.size)
      clear R4 G4 hw4
      go_wp2_with (fail)
      refine (IM.out _ hw5).mono ?_
      rintro e v6 ⟨A6, c6, rfl, hO6, hb6⟩
      have H6 := Rw.of hO6
      have R6 := R5.below hb6
      have G6 := G5.below hb6
      have hw6 := hw5.trans (hb6.mono hw5.size)
      clear hO6 R5 G5 hw5
      go_wp2_with (fail)
      refine (eqStringS_same A6 A1 R c6 c1 _ H6.strs R6.strs).mono ?_
      rintro e v7 ⟨rfl, hb7⟩
      have G7 := G6.below hb7
      have hw7 := hw6.trans (hb7.mono hw6.size)
      clear H6 R6 G6 hw6
      go_wp2_with (fail)
      refine (heldStringS_any A2 R.length c2 1 _ G7.strs (by omega) (by omega)).mono ?_
      rintro e v8 ⟨rfl, hb8⟩
      have hw8 := hw7.trans (hb8.mono hw7.size)
      go_wp2
      go_ret
      exact ⟨rfl, hw8⟩
    · go_enter Tryd.func5, Tryd.ntmps5
      go_wp2
      go_ret
      exact ⟨rfl, Below.refl _ _⟩
  · go_enter Tryd.func5, Tryd.ntmps5
    go_wp2
    go_ret
    exact ⟨rfl, Below.refl _ _⟩
end Go.Proofs.YtodnmbppgjbpmaaDoor
