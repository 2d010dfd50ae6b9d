/- The digest as a function of the text; impl.digestOf and impl.Digest compute it. -/
import Derived.Test.YtahfpcagblcdmaaDoorHash
namespace Go.Proofs.YtahfpcagblcdmaaDoor
open Go.RowKit
set_option linter.unusedVariables false

theorem ext_list (s : ByteArray) (a b : Nat) : (s.extract a b).data.toList = (s.data.toList.drop a).take (b - a) := by
  rw [ByteArray.data_extract]
  simp [Array.toList_extract, List.extract]
theorem ba_ext {a b : ByteArray} (h : a.data.toList = b.data.toList) : a = b := by
  apply ByteArray.ext
  rw [← Array.toArray_toList (xs := a.data), h, Array.toArray_toList]
theorem app_list (a b : ByteArray) : (a ++ b).data.toList = a.data.toList ++ b.data.toList := by simp
theorem len_list (a : ByteArray) : a.data.toList.length = a.size := by simp

theorem ext_shift (A C : ByteArray) (n i j : Nat) (h : n ≤ A.size) : (A.extract n A.size ++ C).extract i j = (A ++ C).extract (n + i) (n + j) := by
  apply ba_ext
  rw [ext_list, ext_list, app_list, app_list, ext_list]
  have hl := len_list A
  have e0 : List.take (A.size - n) (List.drop n A.data.toList) = List.drop n A.data.toList := List.take_of_length_le (by rw [List.length_drop]; omega)
  have e : List.drop n A.data.toList ++ C.data.toList = List.drop n (A.data.toList ++ C.data.toList) := by
    rw [List.drop_append_of_le_length (by omega)]
  rw [e0, e, List.drop_drop, show n + j - (n + i) = j - i by omega]
theorem foldB_shift (r : Reg) (A C : ByteArray) (n : Nat) (h : 64 * n ≤ A.size) (m : Nat) :
    foldB (foldB r (A ++ C) n) (A.extract (64 * n) A.size ++ C) m = foldB r (A ++ C) (n + m) := by
  induction m with
  | zero => rfl
  | succ m ih =>
    show mixR _ _ = mixR _ _
    rw [ih, ext_shift A C _ _ _ h, show 64 * n + 64 * m = 64 * (n + m) by omega, show 64 * n + (64 * m + 64) = 64 * (n + m) + 64 by omega]
    rfl
theorem ext_app (A C : ByteArray) (i j : Nat) (h : j ≤ A.size) : (A ++ C).extract i j = A.extract i j := by
  apply ba_ext
  rw [ext_list, ext_list, app_list]
  have hl := len_list A
  by_cases hi : i ≤ j
  · rw [List.drop_append_of_le_length (by omega), List.take_append_of_le_length (by rw [List.length_drop]; omega)]
  · rw [show j - i = 0 by omega]; simp
theorem foldB_app (r : Reg) (A C : ByteArray) (n : Nat) (h : 64 * n ≤ A.size) : foldB r (A ++ C) n = foldB r A n := by
  induction n with
  | zero => rfl
  | succ n ih =>
    show mixR _ _ = mixR _ _
    rw [ih (by omega), ext_app A C _ _ (by omega)]
theorem foldB_next (r : Reg) (A C : ByteArray) :
    foldB (foldB r A (A.size / 64)) (A.extract (64 * (A.size / 64)) A.size ++ C) ((A.extract (64 * (A.size / 64)) A.size ++ C).size / 64) = foldB r (A ++ C) ((A ++ C).size / 64) := by
  have h : 64 * (A.size / 64) ≤ A.size := by omega
  rw [← foldB_app r A C _ h, foldB_shift r A C _ h]
  congr 1
  rw [ByteArray.size_append, ByteArray.size_append, ByteArray.size_extract]
  omega
theorem rest_next (A C : ByteArray) :
    (A.extract (64 * (A.size / 64)) A.size ++ C).extract (64 * ((A.extract (64 * (A.size / 64)) A.size ++ C).size / 64)) (A.extract (64 * (A.size / 64)) A.size ++ C).size = (A ++ C).extract (64 * ((A ++ C).size / 64)) (A ++ C).size := by
  have h : 64 * (A.size / 64) ≤ A.size := by omega
  rw [ext_shift A C _ _ _ h]
  congr 1
  all_goals
    rw [ByteArray.size_append, ByteArray.size_append, ByteArray.size_extract]
    omega
/-- The text with its end. -/
def ended (t : ByteArray) : ByteArray := t ++ tailS (t.size % 64) t.size
noncomputable def sha (t : ByteArray) : ByteArray := strOfNums (foldB reg0 (ended t) ((ended t).size / 64)).bytes
theorem rest_size (t : ByteArray) : (t.extract (64 * (t.size / 64)) t.size).size = t.size % 64 := by rw [ByteArray.size_extract]; omega
theorem finR_sha (t : ByteArray) (n : Nat) (hn : n = t.size) : strOfNums (finR (foldB reg0 t (t.size / 64)) (t.extract (64 * (t.size / 64)) t.size) n).bytes = sha t := by
  subst hn
  unfold finR sha ended
  rw [rest_size, foldB_next]
theorem bytes_len (r : Reg) : r.bytes.length = 32 := by unfold Reg.bytes Reg.list be4; simp
theorem sha_size (t : ByteArray) : (sha t).size = 32 := by unfold sha; rw [strOfNums_size, bytes_len]

set_option maxHeartbeats 1600000 in
set_option maxRecDepth 1000000 in
theorem digestOf_any (a b : ByteArray) (w : World) (hs : a.size + b.size ≤ 1000000) (hK : Keys w) (hw : 0 < w.heap.size) :
    Calls Tryd.prog 22 #[.string a, .string b] w fun e w' => e = .returned (.string (sha (a ++ b))) ∧ Below w.heap.size w w' := by
  have he : (⟨#[]⟩ : ByteArray) ++ a = a := by apply ba_ext; simp
  have HE := Lib.hid he
  clear he
  go_enter Tryd.func22, Tryd.ntmps22
  go_wp2_with (first
    | (go_at_call 27; refine (start_any _).mono ?_; rintro e w1 ⟨rfl, hb1⟩; have hz1 := hb1.size)
    | (refine wpList_store_new rfl 51 (.tmp 5) (.tmp 6) rfl _ _ (hcells reg0 ⟨#[]⟩ 0) rfl rfl info51 rfl (one51 _ _ _) ?_; intro w2 hg2 hb2; have hB2 : Below w.heap.size w w2 := hb1.trans (hb2.mono hz1); have hK2 := hK.below hB2 hw))
  go_fit (add_any a _ 0 w1.heap.size w.heap.size reg0 _ (by show 0 + _ ≤ _; omega) (by omega) (by omega) hg2 hK2 reg0_bd hz1 hw)
  rintro e w3 ⟨rfl, hg3, hb3⟩
  rw [HE.out] at hg3
  have hK3 := hK2.below hb3 hw
  have hr3 := rest_size a
  have hm : a.size % 64 < 64 := Nat.mod_lt _ (by omega)
  go_wp2_with (fail)
  go_fit (add_any b _ _ w1.heap.size w.heap.size _ _ (by rw [hr3]; omega) (by omega) (by omega) hg3 hK3 (foldB_bd reg0_bd _ _) hz1 hw)
  clear hr3
  rintro e w4 ⟨rfl, hg4, hb4⟩
  rw [foldB_next, rest_next] at hg4
  have hK4 := hK3.below hb4 hw
  have hr4 := rest_size (a ++ b)
  have hn : 0 + (a.size : Int) + (b.size : Int) = ((a.size + b.size : Nat) : Int) := by omega
  rw [hn] at hg4
  clear hn
  have HF := Lib.hid (finR_sha (a ++ b) (a.size + b.size) (ByteArray.size_append).symm)
  have hr4' : ((a ++ b).extract (64 * ((a ++ b).size / 64)) (a ++ b).size).size < 64 := by rw [hr4]; omega
  clear hr4
  go_wp2_with (fail)
  go_fit (finish_any _ _ w1.heap.size w.heap.size _ _ hr4' hs hg4 hK4 (foldB_bd reg0_bd _ _) hz1 hw)
  rintro e w5 ⟨rfl, hb5⟩
  rw [HF.out]
  go_wp2
  go_ret
  exact ⟨rfl, hB2.trans (hb3.trans (hb4.trans hb5))⟩

def MaxB : Nat := 20000
set_option maxHeartbeats 1600000 in
theorem implDigest_any (t : ByteArray) (w : World) (hs : t.size ≤ 20000) (hK : Keys w) (hw : 0 < w.heap.size) :
    Calls Tryd.prog 8 #[.string t] w fun e w' => e = .returned (.string (sha t)) ∧ Below w.heap.size w w' := by
  have HE : Hid (t ++ (⟨#[]⟩ : ByteArray) = t) := by unfold Hid; apply ba_ext; simp
  have HD := Lib.hid (digestOf_any t ⟨#[]⟩ w (by show _ + 0 ≤ _; omega) hK hw)
  rw [HE.out] at HD
  go_enter Tryd.func8, Tryd.ntmps8
  go_wp2_with (first
    | (go_at_call 21; go_in)
    | (go_at_call 22; refine HD.out.mono ?_; rintro e w1 ⟨rfl, hb1⟩))
  go_ret
  exact ⟨rfl, hb1⟩
set_option maxHeartbeats 1600000 in
theorem implDigest_out (t : ByteArray) (w : World) (hs : t.size ≤ maxLen) (h : 20000 < t.size) :
    Calls Tryd.prog 8 #[.string t] w fun e w' => e = .returned (.string ⟨#[]⟩) ∧ Below w.heap.size w w' := by
  unfold maxLen at hs
  go_enter Tryd.func8, Tryd.ntmps8
  go_wp2
  go_ret
  exact ⟨rfl, Below.refl _ _⟩

noncomputable def padS (key : ByteArray) (p : Int) : ByteArray := strOfNums (padL key p)
theorem padS_size (key : ByteArray) (p : Int) : (padS key p).size = 64 := by unfold padS padL; rw [strOfNums_size]; simp
noncomputable def shortKey (key : ByteArray) : ByteArray := if key.size ≤ 64 then key else sha key
theorem shortKey_size (key : ByteArray) : (shortKey key).size ≤ 64 := by unfold shortKey; split; assumption; rw [sha_size]; omega
noncomputable def mac (key t : ByteArray) : ByteArray := sha (padS (shortKey key) 92 ++ sha (padS (shortKey key) 54 ++ t))
theorem mac_size (key t : ByteArray) : (mac key t).size = 32 := sha_size _

theorem padded_S (key : ByteArray) (p : Int) (w : World) (hs : key.size ≤ 64) (p0 : 0 ≤ p) (p1 : p ≤ 255) :
    Calls Tryd.prog 23 #[.string key, .int .u8 p] w fun e w' => e = .returned (.string (padS key p)) ∧ Below w.heap.size w w' := padded_any key p w hs p0 p1
set_option maxHeartbeats 1600000 in
theorem implMac_any (key t : ByteArray) (w : World) (hk : key.size ≤ 20000) (hs : t.size ≤ 20000) (hK : Keys w) (hw : 0 < w.heap.size) :
    Calls Tryd.prog 10 #[.string key, .string t] w fun e w' => e = .returned (.string (mac key t)) ∧ Below w.heap.size w w' := by
  obtain ⟨sk, HSK⟩ : ∃ sk, Hid (shortKey key = sk) := ⟨_, Lib.hid rfl⟩
  have hsk : sk.size ≤ 64 := by rw [← HSK.out]; exact shortKey_size key
  have HM : Hid (mac key t = sha (padS sk 92 ++ sha (padS sk 54 ++ t))) := by unfold Hid mac; rw [HSK.out]
  have hp1 := padS_size sk 54
  have hp2 := padS_size sk 92
  have hd1 := sha_size (padS sk 54 ++ t)
  have HP1 := Lib.hid hp1
  have HP2 := Lib.hid hp2
  have HD1 := Lib.hid hd1
  clear hp1 hp2 hd1
  by_cases h64 : key.size ≤ 64
  · obtain rfl : key = sk := by rw [← HSK.out]; unfold shortKey; rw [if_pos h64]
    go_enter Tryd.func10, Tryd.ntmps10
    go_wp2_with (go_at_call 21; go_in)
    refine (padded_S key 54 _ h64 (by omega) (by omega)).mono ?_
    rintro e w1 ⟨rfl, hb1⟩
    have hz1 := hb1.size
    have hK1 := hK.below hb1 hw
    go_wp2_with (fail)
    refine (digestOf_any (padS key 54) t _ (by rw [HP1.out]; omega) hK1 (by omega)).mono ?_
    rintro e w2 ⟨rfl, hb2⟩
    have hz2 := hb2.size
    have hK2 := hK1.below hb2 (by omega)
    go_wp2_with (fail)
    refine (padded_S key 92 _ h64 (by omega) (by omega)).mono ?_
    rintro e w3 ⟨rfl, hb3⟩
    have hz3 := hb3.size
    have hK3 := hK2.below hb3 (by omega)
    go_wp2_with (fail)
    refine (digestOf_any (padS key 92) _ _ (by rw [HP2.out, HD1.out]; omega) hK3 (by omega)).mono ?_
    rintro e w4 ⟨rfl, hb4⟩
    go_wp2
    go_ret
    exact ⟨retS HM.out.symm, hb1.trans ((hb2.mono hz1).trans ((hb3.mono (Nat.le_trans hz1 hz2)).trans (hb4.mono (Nat.le_trans hz1 (Nat.le_trans hz2 hz3)))))⟩
  · have HS : Hid (sha key = sk) := by unfold Hid; rw [← HSK.out]; unfold shortKey; rw [if_neg h64]
    go_enter Tryd.func10, Tryd.ntmps10
    go_wp2_with (first
      | (go_at_call 21; go_in)
      | (go_at_call 8; refine (implDigest_any key _ hk hK hw).mono ?_; rintro e w0 ⟨rfl, hb0⟩; rw [HS.out]; have hz0 := hb0.size; have hK0 := hK.below hb0 hw))
    refine (padded_S sk 54 _ hsk (by omega) (by omega)).mono ?_
    rintro e w1 ⟨rfl, hb1⟩
    have hz1 := hb1.size
    have hK1 := hK0.below hb1 (by omega)
    go_wp2_with (fail)
    refine (digestOf_any (padS sk 54) t _ (by rw [HP1.out]; omega) hK1 (by omega)).mono ?_
    rintro e w2 ⟨rfl, hb2⟩
    have hz2 := hb2.size
    have hK2 := hK1.below hb2 (by omega)
    go_wp2_with (fail)
    refine (padded_S sk 92 _ hsk (by omega) (by omega)).mono ?_
    rintro e w3 ⟨rfl, hb3⟩
    have hz3 := hb3.size
    have hK3 := hK2.below hb3 (by omega)
    go_wp2_with (fail)
    refine (digestOf_any (padS sk 92) _ _ (by rw [HP2.out, HD1.out]; omega) hK3 (by omega)).mono ?_
    rintro e w4 ⟨rfl, hb4⟩
    go_wp2
    go_ret
    exact ⟨retS HM.out.symm, hb0.trans ((hb1.mono hz0).trans ((hb2.mono (Nat.le_trans hz0 hz1)).trans ((hb3.mono (Nat.le_trans hz0 (Nat.le_trans hz1 hz2))).trans (hb4.mono (Nat.le_trans hz0 (Nat.le_trans hz1 (Nat.le_trans hz2 hz3)))))))⟩

set_option maxHeartbeats 1600000 in
theorem implMac_out (key t : ByteArray) (w : World) (hk : key.size ≤ maxLen) (hs : t.size ≤ maxLen) (h : 20000 < key.size ∨ 20000 < t.size) :
    Calls Tryd.prog 10 #[.string key, .string t] w fun e w' => e = .returned (.string ⟨#[]⟩) ∧ Below w.heap.size w w' := by
  unfold maxLen at hs hk
  by_cases k1 : 20000 < key.size <;> by_cases k2 : 20000 < t.size <;> try omega
  all_goals
    go_enter Tryd.func10, Tryd.ntmps10
    go_wp2
    go_ret
    exact ⟨rfl, Below.refl _ _⟩

/-- A password stretched. -/
noncomputable def stretch (pass : ByteArray) : Nat → ByteArray
  | 0 => ⟨#[115, 97, 108, 116]⟩
  | k + 1 => mac pass (stretch pass k)
theorem stretch_size (pass : ByteArray) (k : Nat) : (stretch pass k).size ≤ 32 := by
  cases k with
  | zero => show 4 ≤ 32; omega
  | succ k => show (mac _ _).size ≤ 32; rw [mac_size]; omega
set_option maxHeartbeats 1600000 in
theorem implStretch_any (pass : ByteArray) (n : Int) (w : World) (hk : pass.size ≤ 20000) (n0 : 1 ≤ n) (n1 : n ≤ 100) (hK : Keys w) (hw : 0 < w.heap.size) :
    Calls Tryd.prog 14 #[.string pass, .int .i64 n] w fun e w' => e = .returned (.string (stretch pass n.toNat)) ∧ Below w.heap.size w w' := by
  have b1 : decide (20000 < (pass.size : Int)) = false := by simp; omega
  have b2 : decide (n < 1) = false := by simp; omega
  have b3 : decide (100 < n) = false := by simp; omega
  go_enter Tryd.func14, Tryd.ntmps14
  go_wp2_with (first
      | (go_at_call 21; go_in)
      | (go_at_call 10; refine (implMac_any pass ⟨#[115, 97, 108, 116]⟩ _ hk (by show 4 ≤ 20000; omega) hK hw).mono ?_; rintro e w1 ⟨rfl, hb1⟩))
  go_loopw [5, 20] (fun s i wr => ∃ (k : Nat) (z : ByteArray), (k : Int) ≤ n - 1 ∧ Hid (stretch pass (k + 1) = z) ∧ i = .int .i64 k ∧ s = .string z ∧ Below w.heap.size w wr) (fun _ i _ => (n - intOf i).toNat)
  case atStart => exact ⟨0, _, by simp; omega, rfl, rfl, rfl, hb1⟩
  case round =>
    obtain ⟨k, z, hk', HZ, rfl, rfl, hb⟩ := hrel
    have hz : z.size ≤ 20000 := by rw [← HZ.out]; have := stretch_size pass (k + 1); omega
    have hK1 := hK.below hb hw
    have hs1 := hb.size
    by_cases hlt : (k : Int) < n - 1
    · have hd : decide ((k : Int) < n - 1) = true := by simp; omega
      go_wp2_with (go_at_call 10; refine (implMac_any pass z _ hk hz hK1 (by omega)).mono ?_; rintro e w2 ⟨rfl, hb2⟩)
      exact ⟨⟨k + 1, _, by omega, by unfold Hid; rw [← HZ.out]; rfl, by go_num, rfl, hb.trans (hb2.mono hs1)⟩, by simp [intOf]; omega⟩
    · have hd : decide ((k : Int) < n - 1) = false := by simp; omega
      have hn : Hid (n.toNat = k + 1) := by unfold Hid; omega
      go_wp2
      go_ret
      exact ⟨retS (by rw [hn.out]; exact HZ.out.symm), hb⟩
set_option maxHeartbeats 1600000 in
theorem implStretch_out (pass : ByteArray) (n : Int) (w : World) (hk : pass.size ≤ maxLen) (h : 20000 < pass.size ∨ n < 1 ∨ 100 < n) :
    Calls Tryd.prog 14 #[.string pass, .int .i64 n] w fun e w' => e = .returned (.string ⟨#[]⟩) ∧ Below w.heap.size w w' := by
  unfold maxLen at hk
  by_cases k1 : 20000 < pass.size <;> by_cases k2 : n < 1 <;> by_cases k3 : 100 < n <;> try omega
  all_goals
    go_enter Tryd.func14, Tryd.ntmps14
    go_wp2
    go_ret
    exact ⟨rfl, Below.refl _ _⟩
end Go.Proofs.YtahfpcagblcdmaaDoor
