/- The walk of the law FnMac. -/
import Derived.Test.YtahfpcagblcdmaaDoorSpecMac
import Derived.Test.YtahfpcagblcdmaaDoorDrawMac
namespace Go.Proofs.YtahfpcagblcdmaaDoor
open Go.RowKit
set_option linter.unusedVariables false

set_option maxHeartbeats 1600000 in
set_option maxRecDepth 1000000 in
theorem lwPad_any (key : ByteArray) (p : Int) (w : World) (hs : key.size ≤ 64) (p0 : 0 ≤ p) (p1 : p ≤ 255) :
    Calls Tryd.prog 9 #[.string key, .int .u8 p] w fun e w' => e = .returned (.string (padS key p)) ∧ Below w.heap.size w w' := by
  have hmk := mk64
  have hb0 : Hid (Blk (w.alloc (.cells (zeros8 64).toArray 5)) w.heap.size 5 (zeros8 64)) := Blk.fresh w _ _
  go_enter Tryd.func9, Tryd.ntmps9
  go_wp2_with (with_reducible refine wpList_copy_str rfl (.tmp 8) (.tmp 9) 22 9 rfl 5 Tryd.underlying22 sizeU8 _ _ _ key rfl rfl w.heap.size 0 _ 5 hb0.out.heap (by omega) (fun _ => rfl) (by rw [zeros8_len]; omega) w.heap.size w ((Below.refl _ _).alloc (Nat.le_refl _) _) (Nat.le_refl _) ?_; intro w2 HG2 hb2)
  have hB0 : Blk w2 w.heap.size 5 (ints .u8 64 (padto key p 0)) := by
    have := HG2.out
    rw [padto_zero key p hs] at this
    exact this
  go_loopw [6] (fun i wr => ∃ (k : Nat), k ≤ 64 ∧ i = .int .i64 k ∧ Blk wr w.heap.size 5 (ints .u8 64 (padto key p k)) ∧ Below w.heap.size w wr) (fun i _ => 64 - (intOf i).toNat)
  case atStart => exact ⟨0, by omega, rfl, hB0, hb2⟩
  case round =>
    clear hB0 HG2 hb2
    obtain ⟨k, hk, rfl, hB, hb⟩ := hrel
    by_cases hlt : k < 64
    · have hp := hB.put k (.int .u8 (bits .xor .u8 (byteI key k) p))
      rw [padto_set key p k hlt] at hp
      have e0 : padto key p k k = byteI key k := by unfold padto; rw [if_neg (by omega)]
      have c1 := hB.cell (ints_get (f := padto key p k) (i := k) hlt)
      rw [e0] at c1
      clear e0
      have f1 := hB.froz k
      have hlt' : (k : Int) < 64 := by omega
      have HP := Lib.hid hp
      clear hp
      go_wp2
      exact ⟨⟨k + 1, by omega, by go_num, HP.out, hb.setCell (Nat.le_refl _) _⟩, by simp [intOf]; omega⟩
    · obtain rfl : k = 64 := by omega
      rw [padto_all] at hB
      have hcv : (convert 22 9 (.slice (some ⟨w.heap.size, 0, none⟩) 64 64)).run Tryd.prog wr = .ok (.string (padS key p)) wr := conv_ints (by omega) hB
      go_wp2
      go_ret
      exact ⟨rfl, hb⟩


theorem stretch_both (pass : ByteArray) (n : Int) (hp : pass.size ≤ 100) : ∃ s : ByteArray, ∀ w, Keys w → 0 < w.heap.size → (Calls Tryd.prog 14 #[.string pass, .int .i64 n] w fun e w' => e = .returned (.string s) ∧ Below w.heap.size w w') ∧ (Calls Tryd.prog 15 #[.string pass, .int .i64 n] w fun e w' => e = .returned (.string s) ∧ Below w.heap.size w w') := by
  by_cases k : 1 ≤ n ∧ n ≤ 100
  · exact ⟨_, fun w hK hw => ⟨implStretch_any pass n w (by omega) k.1 k.2 hK hw, specStretch_any pass n w (by omega) k.1 k.2⟩⟩
  · exact ⟨_, fun w hK hw => ⟨implStretch_out pass n w (by unfold maxLen; omega) (by omega), specStretch_out pass n w (by unfold maxLen; omega) (by omega)⟩⟩
theorem Bts.below {w w' : World} {A : Option Addr} {n : Nat} (h : Bts w w.heap.size A n) (hb : Below w.heap.size w w') : Bts w' w'.heap.size A n :=
  ⟨h.1, fun i hi => by
    obtain ⟨a, x, e, h1, h2, h3⟩ := h.2 i hi
    refine ⟨a, x, e, Nat.lt_of_lt_of_le h1 hb.size, ?_, h3⟩
    rw [hb.cell (p := a.add i) (by rw [add_block]; exact h1)]; exact h2⟩
set_option maxHeartbeats 4000000 in
set_option maxRecDepth 1000000 in
theorem lawMacBig (A1 A2 : Option Addr) (n1 n2 c1 c2 : Nat) (w : World) (h : 1048576 < n1 ∨ 1048576 < n2) (hn1 : n1 ≤ maxLen) (hn2 : n2 ≤ maxLen) :
    Calls Tryd.prog 3 #[.slice A1 n1 c1, .slice A2 n2 c2] w fun e w' => e = .returned (.bool true) ∧ Below w.heap.size w w' := by
  unfold maxLen at hn1 hn2
  by_cases k1 : 1048576 < n1 <;> by_cases k2 : 1048576 < n2 <;> try omega
  all_goals
    go_enter Tryd.func3, Tryd.ntmps3
    go_wp2
    go_ret
    exact ⟨rfl, Below.refl _ _⟩
set_option maxHeartbeats 4000000 in
set_option maxRecDepth 1000000 in
theorem lawMacIn (A1 A2 : Option Addr) (n1 n2 c1 c2 : Nat) (w : World) (h1 : Bts w w.heap.size A1 n1) (h2 : Bts w w.heap.size A2 n2) (hK : Keys w) (hw : 0 < w.heap.size) :
    Calls Tryd.prog 3 #[.slice A1 n1 c1, .slice A2 n2 c2] w fun e w' => e = .returned (.bool true) ∧ Below w.heap.size w w' := by
  have l1 := h1.1
  have l2 := h2.1
  have b1 : decide (1048576 < (n1 : Int)) = false := by simp; omega
  have b2 : decide (1048576 < (n2 : Int)) = false := by simp; omega
  go_enter Tryd.func3, Tryd.ntmps3
  go_wp2_with (fail)
  refine (drawMac_any A1 n1 c1 _ h1).mono ?_
  rintro e w1 ⟨k, t, rfl, hk, ht, hb1⟩
  have hz1 := hb1.size
  have hK1 := hK.below hb1 hw
  by_cases h64 : k.size ≤ 64
  · have d1 : decide ((k.size : Int) ≤ 64) = true := by simp; omega
    have d2 : decide ((t.size : Int) ≤ 19936) = true := by simp; omega
    obtain ⟨p1, HP1⟩ : ∃ p1, Hid (padS k 54 = p1) := ⟨_, Lib.hid rfl⟩
    obtain ⟨p2, HP2⟩ : ∃ p2, Hid (padS k 92 = p2) := ⟨_, Lib.hid rfl⟩
    have hp1 : p1.size ≤ 64 := by rw [← HP1.out, padS_size]; omega
    have hp2 : p2.size ≤ 64 := by rw [← HP2.out, padS_size]; omega
    obtain ⟨d, HD⟩ : ∃ d, Hid (sha (p1 ++ t) = d) := ⟨_, Lib.hid rfl⟩
    have hd : Hid (d.size = 32) := by unfold Hid; rw [← HD.out, sha_size]
    obtain ⟨m, HM⟩ : ∃ m, Hid (mac k t = m) := ⟨_, Lib.hid rfl⟩
    have HM2 : Hid (sha (p2 ++ d) = m) := by
      unfold Hid
      rw [← HM.out]; unfold mac
      have : shortKey k = k := by unfold shortKey; rw [if_pos h64]
      rw [this, HP1.out, HP2.out, HD.out]
    have hd1 : d.size ≤ 32 := by rw [hd.out]; omega
    have hd2 : ((d.size : Int) != 32) = false := by rw [hd.out]; rfl
    have hpt : Hid ((p1 ++ t).size ≤ 20000) := by unfold Hid; rw [ByteArray.size_append]; omega
    have hpd : Hid ((p2 ++ d).size ≤ 20000) := by unfold Hid; rw [ByteArray.size_append]; omega
    go_wp2_with (fail)
    refine (lwPad_any k 54 _ h64 (by omega) (by omega)).mono ?_
    rintro e w2 ⟨rfl, hb2⟩
    rw [HP1.out]
    have hz2 := hb2.size
    have hK2 := hK1.below hb2 (by omega)
    go_wp2_with (fail)
    refine (implDigest_any (p1 ++ t) _ hpt.out hK2 (by omega)).mono ?_
    rintro e w3 ⟨rfl, hb3⟩
    rw [HD.out]
    have hz3 := hb3.size
    have hK3 := hK2.below hb3 (by omega)
    go_wp2_with (fail)
    refine (implMac_any k t _ (by omega) (by omega) hK3 (by omega)).mono ?_
    rintro e w4 ⟨rfl, hb4⟩
    rw [HM.out]
    have hz4 := hb4.size
    have hK4 := hK3.below hb4 (by omega)
    go_wp2_with (fail)
    refine (lwPad_any k 92 _ h64 (by omega) (by omega)).mono ?_
    rintro e w5 ⟨rfl, hb5⟩
    rw [HP2.out]
    have hz5 := hb5.size
    have hK5 := hK4.below hb5 (by omega)
    go_wp2_with (fail)
    refine (implDigest_any (p2 ++ d) _ hpd.out hK5 (by omega)).mono ?_
    rintro e w6 ⟨rfl, hb6⟩
    rw [HM2.out]
    have hz6 := hb6.size
    have hK6 := hK5.below hb6 (by omega)
    have hbm : Below w.heap.size w w6 := hb1.trans ((hb2.mono hz1).trans ((hb3.mono (by omega)).trans ((hb4.mono (by omega)).trans ((hb5.mono (by omega)).trans (hb6.mono (by omega))))))
    have hKm := hK6
    go_wp2_with (fail)
    generalize w6 = wm at hbm hKm ⊢
    clear hb1 hb2 hb3 hb4 hb5 hb6 hz1 hz2 hz3 hz4 hz5 hz6 hK1 hK2 hK3 hK4 hK5 hK6
    have hzm := hbm.size
    refine (drawDigest_any A2 n2 c2 _ (h2.below hbm)).mono ?_
    rintro e w7 ⟨u, rfl, hu, hb7⟩
    have hz7 := hb7.size
    have hK7 := hKm.below hb7 (by omega)
    go_wp2_with (fail)
    refine (drawStretch_any A2 n2 c2 _ ((h2.below hbm).below hb7)).mono ?_
    rintro e w8 ⟨pass, n, rfl, hp, n0, n9, hb8⟩
    have hz8 := hb8.size
    have hK8 := hK7.below hb8 (by omega)
    obtain ⟨su, HSU⟩ : ∃ su, Hid (sha u = su) := ⟨_, Lib.hid rfl⟩
    go_wp2_with (fail)
    refine (implDigest_any u _ (by omega) hK8 (by omega)).mono ?_
    rintro e w9 ⟨rfl, hb9⟩
    rw [HSU.out]
    have hz9 := hb9.size
    have hK9 := hK8.below hb9 (by omega)
    go_wp2_with (fail)
    refine (specDigest_any u _ (by omega)).mono ?_
    rintro e w10 ⟨rfl, hb10⟩
    rw [HSU.out]
    have hz10 := hb10.size
    have hK10 := hK9.below hb10 (by omega)
    obtain ⟨S, hS⟩ := stretch_both pass n hp
    have HS := Lib.hid hS
    clear hS
    go_wp2_with (fail)
    refine (HS.out _ hK10 (by omega)).1.mono ?_
    rintro e w11 ⟨rfl, hb11⟩
    have hz11 := hb11.size
    have hK11 := hK10.below hb11 (by omega)
    go_wp2_with (fail)
    refine (HS.out _ hK11 (by omega)).2.mono ?_
    rintro e w12 ⟨rfl, hb12⟩
    have hz12 := hb12.size
    have hK12 := hK11.below hb12 (by omega)
    have hbq : Below w.heap.size w w12 := hbm.trans ((hb7.mono hzm).trans ((hb8.mono (by omega)).trans ((hb9.mono (by omega)).trans ((hb10.mono (by omega)).trans ((hb11.mono (by omega)).trans (hb12.mono (by omega)))))))
    by_cases q1 : n < 1
    · have e1 : decide (n < 1) = true := by simp; omega
      go_wp2
      go_ret
      exact ⟨rfl, hbq⟩
    · have e1 : decide (n < 1) = false := by simp; omega
      by_cases q2 : 99 < n
      · have e2 : decide (99 < n) = true := by simp; omega
        go_wp2
        go_ret
        exact ⟨rfl, hbq⟩
      · have e2 : decide (99 < n) = false := by simp; omega
        obtain ⟨z, HZ⟩ : ∃ z, Hid (stretch pass n.toNat = z) := ⟨_, Lib.hid rfl⟩
        obtain ⟨y, HY⟩ : ∃ y, Hid (stretch pass (n + 1).toNat = y) := ⟨_, Lib.hid rfl⟩
        have hzs : z.size ≤ 32 := by rw [← HZ.out]; exact stretch_size _ _
        have HM3 : Hid (mac pass z = y) := by
          unfold Hid; rw [← HZ.out, ← HY.out, show (n + 1).toNat = n.toNat + 1 by omega]; rfl
        go_wp2_with (fail)
        refine (implStretch_any pass (n + 1) _ (by omega) (by omega) (by omega) hK12 (by omega)).mono ?_
        rintro e w13 ⟨rfl, hb13⟩
        rw [HY.out]
        have hz13 := hb13.size
        have hK13 := hK12.below hb13 (by omega)
        go_wp2_with (fail)
        refine (implStretch_any pass n _ (by omega) (by omega) (by omega) hK13 (by omega)).mono ?_
        rintro e w14 ⟨rfl, hb14⟩
        rw [HZ.out]
        have hz14 := hb14.size
        have hK14 := hK13.below hb14 (by omega)
        go_wp2_with (fail)
        refine (implMac_any pass z _ (by omega) (by omega) hK14 (by omega)).mono ?_
        rintro e w15 ⟨rfl, hb15⟩
        rw [HM3.out]
        go_wp2
        go_ret
        exact ⟨rfl, hbq.trans ((hb13.mono (by omega)).trans ((hb14.mono (by omega)).trans (hb15.mono (by omega))))⟩
  · have d1 : decide ((k.size : Int) ≤ 64) = false := by simp; omega
    have hKm := hK1
    have hbm := hb1
    go_wp2_with (fail)
    generalize w1 = wm at hbm hKm ⊢
    clear hb1 hz1 hK1
    have hzm := hbm.size
    refine (drawDigest_any A2 n2 c2 _ (h2.below hbm)).mono ?_
    rintro e w7 ⟨u, rfl, hu, hb7⟩
    have hz7 := hb7.size
    have hK7 := hKm.below hb7 (by omega)
    go_wp2_with (fail)
    refine (drawStretch_any A2 n2 c2 _ ((h2.below hbm).below hb7)).mono ?_
    rintro e w8 ⟨pass, n, rfl, hp, n0, n9, hb8⟩
    have hz8 := hb8.size
    have hK8 := hK7.below hb8 (by omega)
    obtain ⟨su, HSU⟩ : ∃ su, Hid (sha u = su) := ⟨_, Lib.hid rfl⟩
    go_wp2_with (fail)
    refine (implDigest_any u _ (by omega) hK8 (by omega)).mono ?_
    rintro e w9 ⟨rfl, hb9⟩
    rw [HSU.out]
    have hz9 := hb9.size
    have hK9 := hK8.below hb9 (by omega)
    go_wp2_with (fail)
    refine (specDigest_any u _ (by omega)).mono ?_
    rintro e w10 ⟨rfl, hb10⟩
    rw [HSU.out]
    have hz10 := hb10.size
    have hK10 := hK9.below hb10 (by omega)
    obtain ⟨S, hS⟩ := stretch_both pass n hp
    have HS := Lib.hid hS
    clear hS
    go_wp2_with (fail)
    refine (HS.out _ hK10 (by omega)).1.mono ?_
    rintro e w11 ⟨rfl, hb11⟩
    have hz11 := hb11.size
    have hK11 := hK10.below hb11 (by omega)
    go_wp2_with (fail)
    refine (HS.out _ hK11 (by omega)).2.mono ?_
    rintro e w12 ⟨rfl, hb12⟩
    have hz12 := hb12.size
    have hK12 := hK11.below hb12 (by omega)
    have hbq : Below w.heap.size w w12 := hbm.trans ((hb7.mono hzm).trans ((hb8.mono (by omega)).trans ((hb9.mono (by omega)).trans ((hb10.mono (by omega)).trans ((hb11.mono (by omega)).trans (hb12.mono (by omega)))))))
    by_cases q1 : n < 1
    · have e1 : decide (n < 1) = true := by simp; omega
      go_wp2
      go_ret
      exact ⟨rfl, hbq⟩
    · have e1 : decide (n < 1) = false := by simp; omega
      by_cases q2 : 99 < n
      · have e2 : decide (99 < n) = true := by simp; omega
        go_wp2
        go_ret
        exact ⟨rfl, hbq⟩
      · have e2 : decide (99 < n) = false := by simp; omega
        obtain ⟨z, HZ⟩ : ∃ z, Hid (stretch pass n.toNat = z) := ⟨_, Lib.hid rfl⟩
        obtain ⟨y, HY⟩ : ∃ y, Hid (stretch pass (n + 1).toNat = y) := ⟨_, Lib.hid rfl⟩
        have hzs : z.size ≤ 32 := by rw [← HZ.out]; exact stretch_size _ _
        have HM3 : Hid (mac pass z = y) := by
          unfold Hid; rw [← HZ.out, ← HY.out, show (n + 1).toNat = n.toNat + 1 by omega]; rfl
        go_wp2_with (fail)
        refine (implStretch_any pass (n + 1) _ (by omega) (by omega) (by omega) hK12 (by omega)).mono ?_
        rintro e w13 ⟨rfl, hb13⟩
        rw [HY.out]
        have hz13 := hb13.size
        have hK13 := hK12.below hb13 (by omega)
        go_wp2_with (fail)
        refine (implStretch_any pass n _ (by omega) (by omega) (by omega) hK13 (by omega)).mono ?_
        rintro e w14 ⟨rfl, hb14⟩
        rw [HZ.out]
        have hz14 := hb14.size
        have hK14 := hK13.below hb14 (by omega)
        go_wp2_with (fail)
        refine (implMac_any pass z _ (by omega) (by omega) hK14 (by omega)).mono ?_
        rintro e w15 ⟨rfl, hb15⟩
        rw [HM3.out]
        go_wp2
        go_ret
        exact ⟨rfl, hbq.trans ((hb13.mono (by omega)).trans ((hb14.mono (by omega)).trans (hb15.mono (by omega))))⟩
theorem lawMacAll (A1 : Option Addr) (n1 c1 : Nat) (A2 : Option Addr) (n2 c2 : Nat) (w : World) (h1 : Byt w A1 n1) (h2 : Byt w A2 n2) (hK : Keys w) (hw : 0 < w.heap.size) :
    Calls Tryd.prog 3 #[.slice A1 n1 c1, .slice A2 n2 c2] w fun e w' => e = .returned (.bool true) ∧ Below w.heap.size w w' := by
  by_cases k1 : n1 ≤ 1048576
  · by_cases k2 : n2 ≤ 1048576
    · exact lawMacIn A1 A2 n1 n2 c1 c2 w (h1.2 k1) (h2.2 k2) hK hw
    · exact lawMacBig A1 A2 n1 n2 c1 c2 w (by omega) h1.1 h2.1
  · exact lawMacBig A1 A2 n1 n2 c1 c2 w (by omega) h1.1 h2.1
end Go.Proofs.YtahfpcagblcdmaaDoor
