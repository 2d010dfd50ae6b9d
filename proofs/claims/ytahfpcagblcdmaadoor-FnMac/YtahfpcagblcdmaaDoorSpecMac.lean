/- The specification's Mac and Stretch, and the walks of the exact laws. -/
import Derived.Test.YtahfpcagblcdmaaDoorSpecSha
namespace Go.Proofs.YtahfpcagblcdmaaDoor
open Go.RowKit
set_option linter.unusedVariables false

set_option maxHeartbeats 1600000 in
set_option maxRecDepth 1000000 in
theorem padSpec_any (key : ByteArray) (p : Int) (w : World) (hs : key.size ≤ 64) (p0 : 0 ≤ p) (p1 : p ≤ 255) :
    Calls Tryd.prog 32 #[.string key, .int .u8 p] w fun e w' => e = .returned (.string (padS key p)) ∧ Below w.heap.size w w' := by
  have hmk := mk64
  have hb0 : Hid (Blk (w.alloc (.cells (zeros8 64).toArray 5)) w.heap.size 5 (zeros8 64)) := Blk.fresh w _ _
  go_enter Tryd.func32, Tryd.ntmps32
  go_wp2_with (with_reducible refine wpList_copy_str rfl (.tmp 8) (.tmp 9) 22 9 rfl 5 Tryd.underlying22 sizeU8 _ _ _ key rfl rfl w.heap.size 0 _ 5 hb0.out.heap (by omega) (fun _ => rfl) (by rw [zeros8_len]; omega) w.heap.size w ((Below.refl _ _).alloc (Nat.le_refl _) _) (Nat.le_refl _) ?_; intro w2 HG2 hb2)
  have hB0 : Blk w2 w.heap.size 5 (ints .u8 64 (padto key p 0)) := by
    have := HG2.out
    rw [padto_zero key p hs] at this
    exact this
  go_loopw [6] (fun i wr => ∃ (k : Nat), k ≤ 64 ∧ i = .int .i64 k ∧ Blk wr w.heap.size 5 (ints .u8 64 (padto key p k)) ∧ Below w.heap.size w wr) (fun i _ => 64 - (intOf i).toNat)
  case atStart => exact ⟨0, by omega, rfl, hB0, hb2⟩
  case round =>
    clear hB0 HG2 hb2
    obtain ⟨k, hk, rfl, hB, hb⟩ := hrel
    by_cases hlt : k < 64
    · have hp := hB.put k (.int .u8 (bits .xor .u8 (byteI key k) p))
      rw [padto_set key p k hlt] at hp
      have e0 : padto key p k k = byteI key k := by unfold padto; rw [if_neg (by omega)]
      have c1 := hB.cell (ints_get (f := padto key p k) (i := k) hlt)
      rw [e0] at c1
      clear e0
      have f1 := hB.froz k
      have hlt' : (k : Int) < 64 := by omega
      have HP := Lib.hid hp
      clear hp
      go_wp2
      exact ⟨⟨k + 1, by omega, by go_num, HP.out, hb.setCell (Nat.le_refl _) _⟩, by simp [intOf]; omega⟩
    · obtain rfl : k = 64 := by omega
      rw [padto_all] at hB
      have hcv : (convert 22 9 (.slice (some ⟨w.heap.size, 0, none⟩) 64 64)).run Tryd.prog wr = .ok (.string (padS key p)) wr := conv_ints (by omega) hB
      go_wp2
      go_ret
      exact ⟨rfl, hb⟩

set_option maxHeartbeats 1600000 in
theorem macSpec_any (key t : ByteArray) (w : World) (hk : key.size ≤ 20000) (hs : t.size ≤ 20000) :
    Calls Tryd.prog 26 #[.string key, .string t] w fun e w' => e = .returned (.string (mac key t)) ∧ Below w.heap.size w w' := by
  obtain ⟨sk, HSK⟩ : ∃ sk, Hid (shortKey key = sk) := ⟨_, Lib.hid rfl⟩
  have hsk : sk.size ≤ 64 := by rw [← HSK.out]; exact shortKey_size key
  have HM : Hid (mac key t = sha (padS sk 92 ++ sha (padS sk 54 ++ t))) := by unfold Hid mac; rw [HSK.out]
  obtain ⟨p1, HP1⟩ : ∃ p1, Hid (padS sk 54 = p1) := ⟨_, Lib.hid rfl⟩
  obtain ⟨p2, HP2⟩ : ∃ p2, Hid (padS sk 92 = p2) := ⟨_, Lib.hid rfl⟩
  have hp1 : p1.size ≤ 64 := by rw [← HP1.out, padS_size]; omega
  have hp2 : p2.size ≤ 64 := by rw [← HP2.out, padS_size]; omega
  obtain ⟨d, HD⟩ : ∃ d, Hid (sha (p1 ++ t) = d) := ⟨_, Lib.hid rfl⟩
  have hd : d.size ≤ 32 := by rw [← HD.out, sha_size]; omega
  rw [HP1.out, HP2.out, HD.out] at HM
  have hpt : (p1 ++ t).size ≤ 100000 := by rw [ByteArray.size_append]; omega
  have hpd : (p2 ++ d).size ≤ 100000 := by rw [ByteArray.size_append]; omega
  have HPT := Lib.hid hpt
  have HPD := Lib.hid hpd
  clear hpt hpd
  by_cases h64 : key.size ≤ 64
  · obtain rfl : key = sk := by rw [← HSK.out]; unfold shortKey; rw [if_pos h64]
    go_enter Tryd.func26, Tryd.ntmps26
    go_wp2_with (fail)
    refine (padSpec_any key 92 _ h64 (by omega) (by omega)).mono ?_
    rintro e w1 ⟨rfl, hb1⟩
    rw [HP2.out]
    have hz1 := hb1.size
    go_wp2_with (fail)
    refine (padSpec_any key 54 _ h64 (by omega) (by omega)).mono ?_
    rintro e w2 ⟨rfl, hb2⟩
    rw [HP1.out]
    have hz2 := hb2.size
    go_wp2_with (fail)
    refine (all_any (p1 ++ t) _ HPT.out).mono ?_
    rintro e w3 ⟨rfl, hb3⟩
    rw [HD.out]
    have hz3 := hb3.size
    go_wp2_with (fail)
    refine (all_any (p2 ++ d) _ HPD.out).mono ?_
    rintro e w4 ⟨rfl, hb4⟩
    go_wp2
    go_ret
    exact ⟨retS HM.out.symm, hb1.trans ((hb2.mono hz1).trans ((hb3.mono (Nat.le_trans hz1 hz2)).trans (hb4.mono (Nat.le_trans hz1 (Nat.le_trans hz2 hz3)))))⟩
  · have HS : Hid (sha key = sk) := by unfold Hid; rw [← HSK.out]; unfold shortKey; rw [if_neg h64]
    go_enter Tryd.func26, Tryd.ntmps26
    go_wp2_with (fail)
    refine (all_any key _ (by omega)).mono ?_
    rintro e w0 ⟨rfl, hb0⟩
    rw [HS.out]
    have hz0 := hb0.size
    go_wp2_with (fail)
    refine (padSpec_any sk 92 _ hsk (by omega) (by omega)).mono ?_
    rintro e w1 ⟨rfl, hb1⟩
    rw [HP2.out]
    have hz1 := hb1.size
    go_wp2_with (fail)
    refine (padSpec_any sk 54 _ hsk (by omega) (by omega)).mono ?_
    rintro e w2 ⟨rfl, hb2⟩
    rw [HP1.out]
    have hz2 := hb2.size
    go_wp2_with (fail)
    refine (all_any (p1 ++ t) _ HPT.out).mono ?_
    rintro e w3 ⟨rfl, hb3⟩
    rw [HD.out]
    have hz3 := hb3.size
    go_wp2_with (fail)
    refine (all_any (p2 ++ d) _ HPD.out).mono ?_
    rintro e w4 ⟨rfl, hb4⟩
    go_wp2
    go_ret
    exact ⟨retS HM.out.symm, hb0.trans ((hb1.mono hz0).trans ((hb2.mono (Nat.le_trans hz0 hz1)).trans ((hb3.mono (Nat.le_trans hz0 (Nat.le_trans hz1 hz2))).trans (hb4.mono (Nat.le_trans hz0 (Nat.le_trans hz1 (Nat.le_trans hz2 hz3)))))))⟩

set_option maxHeartbeats 1600000 in
theorem specDigest_any (t : ByteArray) (w : World) (hs : t.size ≤ 20000) :
    Calls Tryd.prog 13 #[.string t] w fun e w' => e = .returned (.string (sha t)) ∧ Below w.heap.size w w' := by
  go_enter Tryd.func13, Tryd.ntmps13
  go_wp2_with (go_at_call 25; refine (all_any t _ (by omega)).mono ?_; rintro e w1 ⟨rfl, hb1⟩)
  go_ret
  exact ⟨rfl, hb1⟩
set_option maxHeartbeats 1600000 in
theorem specDigest_out (t : ByteArray) (w : World) (hs : t.size ≤ maxLen) (h : 20000 < t.size) :
    Calls Tryd.prog 13 #[.string t] w fun e w' => e = .returned (.string ⟨#[]⟩) ∧ Below w.heap.size w w' := by
  unfold maxLen at hs
  go_enter Tryd.func13, Tryd.ntmps13
  go_wp2
  go_ret
  exact ⟨rfl, Below.refl _ _⟩
set_option maxHeartbeats 1600000 in
theorem specMac_any (key t : ByteArray) (w : World) (hk : key.size ≤ 20000) (hs : t.size ≤ 20000) :
    Calls Tryd.prog 16 #[.string key, .string t] w fun e w' => e = .returned (.string (mac key t)) ∧ Below w.heap.size w w' := by
  go_enter Tryd.func16, Tryd.ntmps16
  go_wp2_with (go_at_call 26; refine (macSpec_any key t _ hk hs).mono ?_; rintro e w1 ⟨rfl, hb1⟩)
  go_ret
  exact ⟨rfl, hb1⟩
set_option maxHeartbeats 1600000 in
theorem specMac_out (key t : ByteArray) (w : World) (hk : key.size ≤ maxLen) (hs : t.size ≤ maxLen) (h : 20000 < key.size ∨ 20000 < t.size) :
    Calls Tryd.prog 16 #[.string key, .string t] w fun e w' => e = .returned (.string ⟨#[]⟩) ∧ Below w.heap.size w w' := by
  unfold maxLen at hs hk
  by_cases k1 : 20000 < key.size <;> by_cases k2 : 20000 < t.size <;> try omega
  all_goals
    go_enter Tryd.func16, Tryd.ntmps16
    go_wp2
    go_ret
    exact ⟨rfl, Below.refl _ _⟩
set_option maxHeartbeats 1600000 in
theorem specStretch_any (pass : ByteArray) (n : Int) (w : World) (hk : pass.size ≤ 20000) (n0 : 1 ≤ n) (n1 : n ≤ 100) :
    Calls Tryd.prog 15 #[.string pass, .int .i64 n] w fun e w' => e = .returned (.string (stretch pass n.toNat)) ∧ Below w.heap.size w w' := by
  have b1 : decide (20000 < (pass.size : Int)) = false := by simp; omega
  have b2 : decide (n < 1) = false := by simp; omega
  have b3 : decide (100 < n) = false := by simp; omega
  go_enter Tryd.func15, Tryd.ntmps15
  go_wp2
  go_loopw [5, 6] (fun s i wr => ∃ (k : Nat) (z : ByteArray), (k : Int) ≤ n ∧ Hid (stretch pass k = z) ∧ i = .int .i64 k ∧ s = .string z ∧ Below w.heap.size w wr) (fun _ i _ => (n - intOf i).toNat)
  case atStart => exact ⟨0, _, by simp; omega, rfl, rfl, rfl, Below.refl _ _⟩
  case round =>
    obtain ⟨k, z, hk', HZ, rfl, rfl, hb⟩ := hrel
    have hz : z.size ≤ 20000 := by rw [← HZ.out]; have := stretch_size pass k; omega
    have hs1 := hb.size
    by_cases hlt : (k : Int) < n
    · have hd : decide ((k : Int) < n) = true := by simp; omega
      go_wp2_with (go_at_call 26; refine (macSpec_any pass z _ hk hz).mono ?_; rintro e w2 ⟨rfl, hb2⟩)
      exact ⟨⟨k + 1, _, by omega, by unfold Hid; rw [← HZ.out]; rfl, by go_num, rfl, hb.trans (hb2.mono hs1)⟩, by simp [intOf]; omega⟩
    · have hd : decide ((k : Int) < n) = false := by simp; omega
      have hn : Hid (n.toNat = k) := by unfold Hid; omega
      go_wp2
      go_ret
      exact ⟨retS (by rw [hn.out]; exact HZ.out.symm), hb⟩
set_option maxHeartbeats 1600000 in
theorem specStretch_out (pass : ByteArray) (n : Int) (w : World) (hk : pass.size ≤ maxLen) (h : 20000 < pass.size ∨ n < 1 ∨ 100 < n) :
    Calls Tryd.prog 15 #[.string pass, .int .i64 n] w fun e w' => e = .returned (.string ⟨#[]⟩) ∧ Below w.heap.size w w' := by
  unfold maxLen at hk
  by_cases k1 : 20000 < pass.size <;> by_cases k2 : n < 1 <;> by_cases k3 : 100 < n <;> try omega
  all_goals
    go_enter Tryd.func15, Tryd.ntmps15
    go_wp2
    go_ret
    exact ⟨rfl, Below.refl _ _⟩
end Go.Proofs.YtahfpcagblcdmaaDoor
