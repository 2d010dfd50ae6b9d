/- The words of a block: wordAt, schedule. -/
import Derived.Test.YtahfpcagblcdmaaDoorBlk
import Derived.Test.YtahfpcagblcdmaaDoorRot
import Derived.RegionTactic
import Derived.BigRegion
namespace Go.Proofs.YtahfpcagblcdmaaDoor
open Go.RowKit
set_option linter.unusedVariables false

def byteI (s : ByteArray) (i : Nat) : Int := if h : i < s.size then (s[i].toNat : Int) else 0
theorem byteI_eq {s : ByteArray} {i : Nat} (h : i < s.size) : byteI s i = (s[i].toNat : Int) := by unfold byteI; rw [dif_pos h]
/-- Four bytes as a word, the first one the highest. -/
noncomputable def word (s : ByteArray) (n : Nat) : Int :=
  bits .or .u32 (bits .or .u32 (bits .or .u32 (byteI s n % 4294967296 * 16777216 % 4294967296) (byteI s (n + 1) % 4294967296 * 65536 % 4294967296)) (byteI s (n + 2) % 4294967296 * 256 % 4294967296)) (byteI s (n + 3) % 4294967296)
theorem word_bd (s : ByteArray) (n : Nat) : 0 ≤ word s n ∧ word s n ≤ 4294967295 := ⟨bits_lo_u32 _ _ _, bits_hi_u32 _ _ _⟩
noncomputable def sig0 (x : Int) : Int := bits .xor .u32 (bits .xor .u32 (rotr x 7) (rotr x 18)) (x / 8)
noncomputable def sig1 (x : Int) : Int := bits .xor .u32 (bits .xor .u32 (rotr x 17) (rotr x 19)) (x / 1024)
noncomputable def wsum (a x b y : Int) : Int := (a + sig0 x + b + sig1 y) % 4294967296
/-- The words of the rounds. -/
noncomputable def schedW (s : ByteArray) (i : Nat) : Int :=
  if h : i < 16 then word s (4 * i) else wsum (schedW s (i - 16)) (schedW s (i - 15)) (schedW s (i - 7)) (schedW s (i - 2))
termination_by i
decreasing_by all_goals omega
theorem schedW_lo {s : ByteArray} {i : Nat} (h : i < 16) : schedW s i = word s (4 * i) := by rw [schedW, dif_pos h]
theorem schedW_hi {s : ByteArray} {i : Nat} (h : ¬ i < 16) : schedW s i = wsum (schedW s (i - 16)) (schedW s (i - 15)) (schedW s (i - 7)) (schedW s (i - 2)) := by rw [schedW, dif_neg h]
theorem schedW_bd (s : ByteArray) (i : Nat) : 0 ≤ schedW s i ∧ schedW s i ≤ 4294967295 := by
  by_cases h : i < 16
  · rw [schedW_lo h]; exact word_bd _ _
  · rw [schedW_hi h]; unfold wsum; omega
noncomputable def upto (k : Nat) (f : Nat → Int) : Nat → Int := fun i => if i < k then f i else 0
theorem upto_set {k n : Nat} {f : Nat → Int} {v : Int} (h : k < n) (hv : v = f k) : (ints .u32 n (upto k f)).set k (.int .u32 v) = ints .u32 n (upto (k + 1) f) := by
  rw [ints_set h]; apply ints_congr; intro i hi; unfold upto
  by_cases e : i = k
  · subst e; simp [hv]
  · simp [e]; by_cases g : i < k
    · simp [g, show i < k + 1 by omega]
    · simp [g, show ¬ i < k + 1 by omega]
theorem upto_get {k n : Nat} {f : Nat → Int} {i : Nat} (h : k ≤ n) (hi : i < k) : (ints .u32 n (upto k f))[i]? = some (.int .u32 (f i)) := by
  rw [ints_get (by omega)]; unfold upto; rw [if_pos hi]
theorem upto_all {n : Nat} {f : Nat → Int} : ints .u32 n (upto n f) = ints .u32 n f := ints_congr fun i hi => by unfold upto; rw [if_pos hi]
theorem upto_none {n : Nat} {f : Nat → Int} : ints .u32 n (upto 0 f) = List.replicate n (.int .u32 0) := by
  unfold ints upto; simp [List.map_const']

set_option maxHeartbeats 400000 in
theorem wordAt_any (s : ByteArray) (a : Int) (w : World) (h0 : 0 ≤ a) (h1 : a + 3 < s.size) (hs : s.size ≤ 1048576):
    Calls Tryd.prog 49 #[.string s, .int .i64 a] w fun e w' => e = .returned (.int .u32 (word s a.toNat)) ∧ ∃ k, w' = w.drewN k := by
  obtain ⟨n, rfl⟩ := Int.eq_ofNat_of_zero_le h0
  have i0 : n < s.size := by omega
  have i1 : n + 1 < s.size := by omega
  have i2 : n + 2 < s.size := by omega
  have i3 : n + 3 < s.size := by omega
  have HW : Hid (word s n = bits .or .u32 (bits .or .u32 (bits .or .u32 ((s[n].toNat : Int) % 4294967296 * 16777216 % 4294967296) ((s[n + 1].toNat : Int) % 4294967296 * 65536 % 4294967296)) ((s[n + 2].toNat : Int) % 4294967296 * 256 % 4294967296)) ((s[n + 3].toNat : Int) % 4294967296)) := by
    unfold Hid word; rw [byteI_eq i0, byteI_eq i1, byteI_eq i2, byteI_eq i3]
  have j1 : 0 ≤ (n : Int) + 1 := by omega
  have j2 : 0 ≤ (n : Int) + 2 := by omega
  have j3 : 0 ≤ (n : Int) + 3 := by omega
  have k1 : (n : Int) + 1 < (s.size : Int) := by omega
  have k2 : (n : Int) + 2 < (s.size : Int) := by omega
  have k3 : (n : Int) + 3 < (s.size : Int) := by omega
  have t1 : ((n : Int) + 1).toNat = n + 1 := by omega
  have t2 : ((n : Int) + 2).toNat = n + 2 := by omega
  have t3 : ((n : Int) + 3).toNat = n + 3 := by omega
  have e1 : IntKind.i64.wrap ((n : Int) + 1) = (n : Int) + 1 := IntWalk.i64_in _ (by omega)
  have e2 : IntKind.i64.wrap ((n : Int) + 2) = (n : Int) + 2 := IntWalk.i64_in _ (by omega)
  have e3 : IntKind.i64.wrap ((n : Int) + 3) = (n : Int) + 3 := IntWalk.i64_in _ (by omega)
  go_enter Tryd.func49, Tryd.ntmps49
  go_wp2
  go_quiet (fail)
  go_wp2
  go_ret
  exact ⟨retI HW.out.symm, _, rfl⟩

theorem infoA : (Tryd.prog.info? 65).map (·.size) = some 64 := by kernel_rfl
set_option maxHeartbeats 1600000 in
set_option maxRecDepth 1000000 in
theorem schedule_any (s : ByteArray) (w : World) (hs : s.size = 64) :
    Calls Tryd.prog 41 #[.string s] w fun e w' => e = .returned (.agg (ints .u32 64 (schedW s)).toArray) ∧ Below w.heap.size w w' := by
  have HS := Lib.hid hs
  have hs0 : s.size ≤ 64 := by omega
  have hs1 : 64 ≤ s.size := by omega
  clear hs
  have hr0 := @upto_none 64 (schedW s)
  have HR := Lib.hid hr0
  clear hr0
  go_enter Tryd.func41, Tryd.ntmps41
  go_wp2
  go_loopw [4, 10] (fun _ i wr => ∃ k : Nat, k ≤ 16 ∧ i = .int .i64 k ∧ Blk wr w.heap.size 65 (List.replicate 64 (.int .u32 0)) ∧ Blk wr (w.heap.size + 1) 65 (ints .u32 64 (upto k (schedW s))) ∧ Below w.heap.size w wr) (fun _ i _ => 16 - (intOf i).toNat)
  case atStart =>
    refine ⟨0, Nat.zero_le _, rfl, (Blk.fresh w _ (List.replicate 64 (.int .u32 0))).alloc _, ?_, ((Below.refl _ _).alloc (Nat.le_refl _) _).alloc (by simp) _⟩
    rw [HR.out]
    have := Blk.fresh (w.alloc (.cells (List.replicate 64 (.int .u32 0)).toArray 65)) 65 (List.replicate 64 (.int .u32 0))
    simpa using this
  case round =>
    obtain ⟨k, hk, rfl, hR, hW, hb⟩ := hrel
    by_cases hlt : k < 16
    · have c1 := hW.cell (ints_get (f := upto k (schedW s)) (i := k) (n := 64) (by omega))
      have f1 := hW.froz k
      have hx : 4 * (k : Int) + 3 < s.size := by omega
      go_wp2_with (go_at_call 49; refine (wordAt_any _ _ _ (by omega) (by omega) (by omega)).mono ?_; rintro e w' ⟨rfl, nk, rfl⟩)
      exact ⟨⟨k + 1, by omega, by go_num, (hR.drewN nk).far (by simp) _, by
        have := (hW.drewN nk).put k (.int .u32 (word s (4 * k)))
        rw [upto_set (by omega) (schedW_lo hlt).symm] at this
        exact this, (below_drewN hb nk).setCell (by simp) _⟩, by simp [intOf]; omega⟩
    · obtain rfl : k = 16 := by omega
      clear hlt hk
      simp only [show ((16 : Nat) : Int) = 16 from rfl]
      go_wp2
      go_loopw [5, 6, 7, 8, 9] (fun i _ _ _ _ wq => ∃ k : Nat, 16 ≤ k ∧ k ≤ 64 ∧ i = .int .i64 k ∧ Blk wq w.heap.size 65 (List.replicate 64 (.int .u32 0)) ∧ Blk wq (w.heap.size + 1) 65 (ints .u32 64 (upto k (schedW s))) ∧ Below w.heap.size w wq) (fun i _ _ _ _ _ => 64 - (intOf i).toNat)
      case atStart => exact ⟨16, by omega, by omega, rfl, hR, hW, hb⟩
      case round =>
        clear hR hW hb
        obtain ⟨k, hk0, hk, rfl, hR, hW, hb⟩ := hrel
        by_cases hlt : k < 64
        · obtain ⟨a, HA⟩ : ∃ a, Hid (a + 16 = k) := ⟨k - 16, by unfold Hid; omega⟩
          have hA := HA.out
          have q1 : 0 ≤ schedW s (a + 1) ∧ schedW s (a + 1) ≤ 4294967295 := schedW_bd _ _
          have q2 : 0 ≤ schedW s (a + 14) ∧ schedW s (a + 14) ≤ 4294967295 := schedW_bd _ _
          obtain ⟨q1a, q1b⟩ := q1
          obtain ⟨q2a, q2b⟩ := q2
          have HK : Hid (schedW s k = wsum (schedW s a) (schedW s (a + 1)) (schedW s (a + 9)) (schedW s (a + 14))) := by
            unfold Hid; rw [schedW_hi (by omega), ← hA]; rfl
          have c0 := hW.cell (upto_get (f := schedW s) (i := a) hk (by omega))
          have c1 := hW.cell (upto_get (f := schedW s) (i := a + 1) hk (by omega))
          have c9 := hW.cell (upto_get (f := schedW s) (i := a + 9) hk (by omega))
          have c14 := hW.cell (upto_get (f := schedW s) (i := a + 14) hk (by omega))
          have ck := hW.cell (ints_get (f := upto k (schedW s)) (i := k) (n := 64) hlt)
          have fk := hW.froz k
          have hlt' : (k : Int) < 64 := by omega
          have b1 : (0 : Int) ≤ ((a + 1 : Nat) : Int) ∧ ((a + 1 : Nat) : Int) < 64 := by omega
          have e15 : (k : Int) - 15 = ((a + 1 : Nat) : Int) := by omega
          have w15 : IntKind.i64.wrap ((k : Int) - 15) = ((a + 1 : Nat) : Int) := by rw [IntWalk.i64_in _ (by omega)]; omega
          have w16 : IntKind.i64.wrap ((k : Int) - 16) = ((a : Nat) : Int) := by rw [IntWalk.i64_in _ (by omega)]; omega
          have w7 : IntKind.i64.wrap ((k : Int) - 7) = ((a + 9 : Nat) : Int) := by rw [IntWalk.i64_in _ (by omega)]; omega
          have b0 : (0 : Int) ≤ ((a : Nat) : Int) ∧ ((a : Nat) : Int) < 64 := by omega
          have b9 : (0 : Int) ≤ ((a + 9 : Nat) : Int) ∧ ((a + 9 : Nat) : Int) < 64 := by omega
          have w2 : IntKind.i64.wrap ((k : Int) - 2) = ((a + 14 : Nat) : Int) := by rw [IntWalk.i64_in _ (by omega)]; omega
          clear hA
          go_wp2
          go_quiet (fail)
          go_wp2_with (go_at_call 42; refine (rotated_any _ _ _ (by omega) (by omega) (by omega) (by omega)).mono ?_; rintro e w' ⟨rfl, rfl⟩)
          go_region
          go_wp2
          have hp := (hW.drewN (nq + 1)).put k (.int .u32 (schedW s k))
          rw [upto_set hlt rfl, HK.out] at hp
          exact ⟨⟨k + 1, by omega, by omega, by go_num, (hR.drewN (nq + 1)).far (p := ⟨w.heap.size + 1, k, none⟩) (by simp) _, hp, (below_drewN hb (nq + 1)).setCell (by simp) _⟩, by simp [intOf]; omega⟩
        · obtain rfl : k = 64 := by omega
          rw [upto_all] at hW
          have l3 := run_loadVar_row (P := Tryd.prog) _ _ _ 65 _ (0, 0) _ (hR.setRow (ints .u32 64 (schedW s))) Tryd.underlying65 rfl (by rw [infoA]; simp [ints])
          have HL := Lib.hid l3
          clear l3
          go_wp2_with (first
            | (with_reducible refine wpList_load_row rfl 65 (.tmp 3) rfl (w.heap.size + 1) rfl 65 _ (0, 0) _ hW.heap Tryd.underlying65 rfl (by rw [infoA]; simp [ints]) ?_)
            | (with_reducible refine wpList_store_row rfl 65 (.tmp 2) (.tmp 63) rfl w.heap.size (ints .u32 64 (schedW s)).toArray rfl rfl 65 _ hR.heap (by rw [infoA]; simp [ints]) (by simp [ints]) (ints_one _ _ _) ?_))
          refine bodyPost_ret (v := .agg (ints .u32 64 (schedW s)).toArray) (by simp only [results, Tryd.results41]; simp [Act.put, asAddr, HL.out]) rfl ⟨rfl, below_setRow hb (Nat.le_refl _) _⟩
end Go.Proofs.YtahfpcagblcdmaaDoor
