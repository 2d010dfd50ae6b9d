/- The words of a block: wordAt, schedule. One block taken into the state: mix. The strings that the hash makes: text, lengthText, padded. -/
import Derived.Test.YtodnmbppgjbpmaaDoorBlkW
import Derived.RegionTactic
import Derived.BigRegion
namespace Go.Proofs.YtodnmbppgjbpmaaDoor
open Go.RowKit
set_option linter.unusedVariables false
/-- A word of 32 bits turned to the right. -/
noncomputable def rotr (x k : Int) : Int := bits BinOp.or IntKind.u32 (x / 2 ^ k.toNat) (x * 2 ^ (32 - k).toNat % 4294967296)
theorem rotr_bd (x k : Int) : 0 ≤ rotr x k ∧ rotr x k ≤ 4294967295 := ⟨bits_lo_u32 _ _ _, bits_hi_u32 _ _ _⟩
theorem or_comm32 (a b : Int) : bits BinOp.or IntKind.u32 a b = bits BinOp.or IntKind.u32 b a := by
  show IntKind.u32.wrap ((BitVec.ofInt 32 a ||| BitVec.ofInt 32 b).toNat : Int) = IntKind.u32.wrap ((BitVec.ofInt 32 b ||| BitVec.ofInt 32 a).toNat : Int)
  rw [BitVec.or_comm]
theorem neg_and (k : Int) (k0 : 1 ≤ k) (k1 : k ≤ 31) : bits BinOp.and IntKind.u64 (IntKind.u64.wrap (-k)) 31 = 32 - k := by
  have e : IntKind.u64.wrap (-k) = ((18446744073709551616 - k).toNat : Int) := by rw [IntKind.wrap_u64]; omega
  rw [e, show (31 : Int) = ((31 : Nat) : Int) from rfl, u64_and_nat _ 31 (by omega) (by omega), show (31 : Nat) = 2 ^ 5 - 1 from rfl, Nat.and_two_pow_sub_one_eq_mod]
  omega
set_option maxHeartbeats 400000 in
theorem turn_any (x k : Int) (w : World) (h0 : 0 ≤ x) (h1 : x ≤ 4294967295) (k0 : 1 ≤ k) (k1 : k ≤ 31) :
    Calls Tryd.prog 92 #[.int .u32 x, .int .u64 k] w fun e w' => e = .returned (.int .u32 (rotr x k)) ∧ w = w' := by
  go_enter Tryd.func92, Tryd.ntmps92
  go_wp2
  go_ret
  exact ⟨rfl, rfl⟩
set_option maxHeartbeats 400000 in
theorem rotl_any (x k : Int) (w : World) (h0 : 0 ≤ x) (h1 : x ≤ 4294967295) (k0 : 1 ≤ k) (k1 : k ≤ 31) :
    Calls Tryd.prog 161 #[.int .u32 x, .int .i64 (-k)] w fun e w' => e = .returned (.int .u32 (rotr x k)) ∧ w = w' := by
  have e := neg_and k k0 k1
  go_enter Tryd.func161, Tryd.ntmps161
  go_wp2
  go_ret
  exact ⟨retI (by unfold rotr; rw [or_comm32, show 32 - (32 - k) = k by omega]), rfl⟩
set_option maxHeartbeats 400000 in
theorem rotated_any (x k : Int) (w : World) (h0 : 0 ≤ x) (h1 : x ≤ 4294967295) (k0 : 1 ≤ k) (k1 : k ≤ 31) :
    Calls Tryd.prog 150 #[.int .u32 x, .int .i64 k] w fun e w' => e = .returned (.int .u32 (rotr x k)) ∧ w = w' := by
  go_enter Tryd.func150, Tryd.ntmps150
  go_wp2_with (go_at_call 161; refine (rotl_any _ _ _ h0 h1 k0 k1).mono ?_; rintro e w' ⟨rfl, rfl⟩)
  go_ret
  exact ⟨rfl, rfl⟩
end Go.Proofs.YtodnmbppgjbpmaaDoor

namespace Go.Proofs.YtodnmbppgjbpmaaDoor
open Go.RowKit
set_option linter.unusedVariables false

def byteI (s : ByteArray) (i : Nat) : Int := if h : i < s.size then (s[i].toNat : Int) else 0
theorem byteI_eq {s : ByteArray} {i : Nat} (h : i < s.size) : byteI s i = (s[i].toNat : Int) := by unfold byteI; rw [dif_pos h]
/-- Four bytes as a word, the first one the highest. -/
noncomputable def word (s : ByteArray) (n : Nat) : Int :=
  bits .or .u32 (bits .or .u32 (bits .or .u32 (byteI s n % 4294967296 * 16777216 % 4294967296) (byteI s (n + 1) % 4294967296 * 65536 % 4294967296)) (byteI s (n + 2) % 4294967296 * 256 % 4294967296)) (byteI s (n + 3) % 4294967296)
theorem word_bd (s : ByteArray) (n : Nat) : 0 ≤ word s n ∧ word s n ≤ 4294967295 := ⟨bits_lo_u32 _ _ _, bits_hi_u32 _ _ _⟩
noncomputable def sig0 (x : Int) : Int := bits .xor .u32 (bits .xor .u32 (rotr x 7) (rotr x 18)) (x / 8)
noncomputable def sig1 (x : Int) : Int := bits .xor .u32 (bits .xor .u32 (rotr x 17) (rotr x 19)) (x / 1024)
noncomputable def wsum (a x b y : Int) : Int := (a + sig0 x + b + sig1 y) % 4294967296
/-- The words of the rounds. -/
noncomputable def schedW (s : ByteArray) (i : Nat) : Int :=
  if h : i < 16 then word s (4 * i) else wsum (schedW s (i - 16)) (schedW s (i - 15)) (schedW s (i - 7)) (schedW s (i - 2))
termination_by i
decreasing_by all_goals omega
theorem schedW_lo {s : ByteArray} {i : Nat} (h : i < 16) : schedW s i = word s (4 * i) := by rw [schedW, dif_pos h]
theorem schedW_hi {s : ByteArray} {i : Nat} (h : ¬ i < 16) : schedW s i = wsum (schedW s (i - 16)) (schedW s (i - 15)) (schedW s (i - 7)) (schedW s (i - 2)) := by rw [schedW, dif_neg h]
theorem schedW_bd (s : ByteArray) (i : Nat) : 0 ≤ schedW s i ∧ schedW s i ≤ 4294967295 := by
  by_cases h : i < 16
  · rw [schedW_lo h]; exact word_bd _ _
  · rw [schedW_hi h]; unfold wsum; omega
noncomputable def upto (k : Nat) (f : Nat → Int) : Nat → Int := fun i => if i < k then f i else 0
theorem upto_set {k n : Nat} {f : Nat → Int} {v : Int} (h : k < n) (hv : v = f k) : (ints .u32 n (upto k f)).set k (.int .u32 v) = ints .u32 n (upto (k + 1) f) := by
  rw [ints_set h]; apply ints_congr; intro i hi; unfold upto
  by_cases e : i = k
  · subst e; simp [hv]
  · simp [e]; by_cases g : i < k
    · simp [g, show i < k + 1 by omega]
    · simp [g, show ¬ i < k + 1 by omega]
theorem upto_get {k n : Nat} {f : Nat → Int} {i : Nat} (h : k ≤ n) (hi : i < k) : (ints .u32 n (upto k f))[i]? = some (.int .u32 (f i)) := by
  rw [ints_get (by omega)]; unfold upto; rw [if_pos hi]
theorem upto_all {n : Nat} {f : Nat → Int} : ints .u32 n (upto n f) = ints .u32 n f := ints_congr fun i hi => by unfold upto; rw [if_pos hi]
theorem upto_none {n : Nat} {f : Nat → Int} : ints .u32 n (upto 0 f) = List.replicate n (.int .u32 0) := by
  unfold ints upto; simp [List.map_const']

set_option maxHeartbeats 400000 in
theorem wordAt_any (s : ByteArray) (a : Int) (w : World) (h0 : 0 ≤ a) (h1 : a + 3 < s.size) (hs : s.size ≤ 1048576):
    Calls Tryd.prog 160 #[.string s, .int .i64 a] w fun e w' => e = .returned (.int .u32 (word s a.toNat)) ∧ ∃ k, w' = w.drewN k := by
  obtain ⟨n, rfl⟩ := Int.eq_ofNat_of_zero_le h0
  have i0 : n < s.size := by omega
  have i1 : n + 1 < s.size := by omega
  have i2 : n + 2 < s.size := by omega
  have i3 : n + 3 < s.size := by omega
  have HW : Hid (word s n = bits .or .u32 (bits .or .u32 (bits .or .u32 ((s[n].toNat : Int) % 4294967296 * 16777216 % 4294967296) ((s[n + 1].toNat : Int) % 4294967296 * 65536 % 4294967296)) ((s[n + 2].toNat : Int) % 4294967296 * 256 % 4294967296)) ((s[n + 3].toNat : Int) % 4294967296)) := by
    unfold Hid word; rw [byteI_eq i0, byteI_eq i1, byteI_eq i2, byteI_eq i3]
  have j1 : 0 ≤ (n : Int) + 1 := by omega
  have j2 : 0 ≤ (n : Int) + 2 := by omega
  have j3 : 0 ≤ (n : Int) + 3 := by omega
  have k1 : (n : Int) + 1 < (s.size : Int) := by omega
  have k2 : (n : Int) + 2 < (s.size : Int) := by omega
  have k3 : (n : Int) + 3 < (s.size : Int) := by omega
  have t1 : ((n : Int) + 1).toNat = n + 1 := by omega
  have t2 : ((n : Int) + 2).toNat = n + 2 := by omega
  have t3 : ((n : Int) + 3).toNat = n + 3 := by omega
  have e1 : IntKind.i64.wrap ((n : Int) + 1) = (n : Int) + 1 := IntWalk.i64_in _ (by omega)
  have e2 : IntKind.i64.wrap ((n : Int) + 2) = (n : Int) + 2 := IntWalk.i64_in _ (by omega)
  have e3 : IntKind.i64.wrap ((n : Int) + 3) = (n : Int) + 3 := IntWalk.i64_in _ (by omega)
  go_enter Tryd.func160, Tryd.ntmps160
  go_wp2
  go_quiet (fail)
  go_wp2
  go_ret
  exact ⟨retI HW.out.symm, _, rfl⟩

theorem infoA : (Tryd.prog.info? 173).map (·.size) = some 64 := by kernel_rfl
set_option maxHeartbeats 1600000 in
set_option maxRecDepth 1000000 in
theorem schedule_any (s : ByteArray) (w : World) (hs : s.size = 64) :
    Calls Tryd.prog 149 #[.string s] w fun e w' => e = .returned (.agg (ints .u32 64 (schedW s)).toArray) ∧ Below w.heap.size w w' := by
  have HS := Lib.hid hs
  have hs0 : s.size ≤ 64 := by omega
  have hs1 : 64 ≤ s.size := by omega
  clear hs
  have hr0 := @upto_none 64 (schedW s)
  have HR := Lib.hid hr0
  clear hr0
  go_enter Tryd.func149, Tryd.ntmps149
  go_wp2
  go_loopw [4, 10] (fun _ i wr => ∃ k : Nat, k ≤ 16 ∧ i = .int .i64 k ∧ Blk wr w.heap.size 173 (List.replicate 64 (.int .u32 0)) ∧ Blk wr (w.heap.size + 1) 173 (ints .u32 64 (upto k (schedW s))) ∧ Below w.heap.size w wr) (fun _ i _ => 16 - (intOf i).toNat)
  case atStart =>
    refine ⟨0, Nat.zero_le _, rfl, (Blk.fresh w _ (List.replicate 64 (.int .u32 0))).alloc _, ?_, ((Below.refl _ _).alloc (Nat.le_refl _) _).alloc (by simp) _⟩
    rw [HR.out]
    have := Blk.fresh (w.alloc (.cells (List.replicate 64 (.int .u32 0)).toArray 173)) 173 (List.replicate 64 (.int .u32 0))
    simpa using this
  case round =>
    obtain ⟨k, hk, rfl, hR, hW, hb⟩ := hrel
    by_cases hlt : k < 16
    · have c1 := hW.cell (ints_get (f := upto k (schedW s)) (i := k) (n := 64) (by omega))
      have f1 := hW.froz k
      have hx : 4 * (k : Int) + 3 < s.size := by omega
      go_wp2_with (go_at_call 160; refine (wordAt_any _ _ _ (by omega) (by omega) (by omega)).mono ?_; rintro e w' ⟨rfl, nk, rfl⟩)
      exact ⟨⟨k + 1, by omega, by go_num, (hR.drewN nk).far (by simp) _, by
        have := (hW.drewN nk).put k (.int .u32 (word s (4 * k)))
        rw [upto_set (by omega) (schedW_lo hlt).symm] at this
        exact this, (below_drewN hb nk).setCell (by simp) _⟩, by simp [intOf]; omega⟩
    · obtain rfl : k = 16 := by omega
      clear hlt hk
      simp only [show ((16 : Nat) : Int) = 16 from rfl]
      go_wp2
      go_loopw [5, 6, 7, 8, 9] (fun i _ _ _ _ wq => ∃ k : Nat, 16 ≤ k ∧ k ≤ 64 ∧ i = .int .i64 k ∧ Blk wq w.heap.size 173 (List.replicate 64 (.int .u32 0)) ∧ Blk wq (w.heap.size + 1) 173 (ints .u32 64 (upto k (schedW s))) ∧ Below w.heap.size w wq) (fun i _ _ _ _ _ => 64 - (intOf i).toNat)
      case atStart => exact ⟨16, by omega, by omega, rfl, hR, hW, hb⟩
      case round =>
        clear hR hW hb
        obtain ⟨k, hk0, hk, rfl, hR, hW, hb⟩ := hrel
        by_cases hlt : k < 64
        · obtain ⟨a, HA⟩ : ∃ a, Hid (a + 16 = k) := ⟨k - 16, by unfold Hid; omega⟩
          have hA := HA.out
          have q1 : 0 ≤ schedW s (a + 1) ∧ schedW s (a + 1) ≤ 4294967295 := schedW_bd _ _
          have q2 : 0 ≤ schedW s (a + 14) ∧ schedW s (a + 14) ≤ 4294967295 := schedW_bd _ _
          obtain ⟨q1a, q1b⟩ := q1
          obtain ⟨q2a, q2b⟩ := q2
          have HK : Hid (schedW s k = wsum (schedW s a) (schedW s (a + 1)) (schedW s (a + 9)) (schedW s (a + 14))) := by
            unfold Hid; rw [schedW_hi (by omega), ← hA]; rfl
          have c0 := hW.cell (upto_get (f := schedW s) (i := a) hk (by omega))
          have c1 := hW.cell (upto_get (f := schedW s) (i := a + 1) hk (by omega))
          have c9 := hW.cell (upto_get (f := schedW s) (i := a + 9) hk (by omega))
          have c14 := hW.cell (upto_get (f := schedW s) (i := a + 14) hk (by omega))
          have ck := hW.cell (ints_get (f := upto k (schedW s)) (i := k) (n := 64) hlt)
          have fk := hW.froz k
          have hlt' : (k : Int) < 64 := by omega
          have b1 : (0 : Int) ≤ ((a + 1 : Nat) : Int) ∧ ((a + 1 : Nat) : Int) < 64 := by omega
          have e15 : (k : Int) - 15 = ((a + 1 : Nat) : Int) := by omega
          have w15 : IntKind.i64.wrap ((k : Int) - 15) = ((a + 1 : Nat) : Int) := by rw [IntWalk.i64_in _ (by omega)]; omega
          have w16 : IntKind.i64.wrap ((k : Int) - 16) = ((a : Nat) : Int) := by rw [IntWalk.i64_in _ (by omega)]; omega
          have w7 : IntKind.i64.wrap ((k : Int) - 7) = ((a + 9 : Nat) : Int) := by rw [IntWalk.i64_in _ (by omega)]; omega
          have b0 : (0 : Int) ≤ ((a : Nat) : Int) ∧ ((a : Nat) : Int) < 64 := by omega
          have b9 : (0 : Int) ≤ ((a + 9 : Nat) : Int) ∧ ((a + 9 : Nat) : Int) < 64 := by omega
          have w2 : IntKind.i64.wrap ((k : Int) - 2) = ((a + 14 : Nat) : Int) := by rw [IntWalk.i64_in _ (by omega)]; omega
          clear hA
          go_wp2
          go_quiet (fail)
          go_wp2_with (go_at_call 150; refine (rotated_any _ _ _ (by omega) (by omega) (by omega) (by omega)).mono ?_; rintro e w' ⟨rfl, rfl⟩)
          go_region
          go_wp2
          have hp := (hW.drewN (nq + 1)).put k (.int .u32 (schedW s k))
          rw [upto_set hlt rfl, HK.out] at hp
          exact ⟨⟨k + 1, by omega, by omega, by go_num, (hR.drewN (nq + 1)).far (p := ⟨w.heap.size + 1, k, none⟩) (by simp) _, hp, (below_drewN hb (nq + 1)).setCell (by simp) _⟩, by simp [intOf]; omega⟩
        · obtain rfl : k = 64 := by omega
          rw [upto_all] at hW
          have l3 := run_loadVar_row (P := Tryd.prog) _ _ _ 173 _ (0, 0) _ (hR.setRow (ints .u32 64 (schedW s))) Tryd.underlying173 rfl (by rw [infoA]; simp [ints])
          have HL := Lib.hid l3
          clear l3
          go_wp2_with (first
            | (with_reducible refine wpList_load_row rfl 173 (.tmp 3) rfl (w.heap.size + 1) rfl 173 _ (0, 0) _ hW.heap Tryd.underlying173 rfl (by rw [infoA]; simp [ints]) ?_)
            | (with_reducible refine wpList_store_row rfl 173 (.tmp 2) (.tmp 63) rfl w.heap.size (ints .u32 64 (schedW s)).toArray rfl rfl 173 _ hR.heap (by rw [infoA]; simp [ints]) (by simp [ints]) (ints_one _ _ _) ?_))
          refine bodyPost_ret (v := .agg (ints .u32 64 (schedW s)).toArray) (by simp only [results, Tryd.results149]; simp [Act.put, asAddr, HL.out]) rfl ⟨rfl, below_setRow hb (Nat.le_refl _) _⟩
end Go.Proofs.YtodnmbppgjbpmaaDoor

namespace Go.Proofs.YtodnmbppgjbpmaaDoor
open Go.RowKit
set_option linter.unusedVariables false

/-- The numbers of the rounds. -/
def keyL : List Int := [1116352408, 1899447441, 3049323471, 3921009573, 961987163, 1508970993, 2453635748, 2870763221, 3624381080, 310598401, 607225278, 1426881987, 1925078388, 2162078206, 2614888103, 3248222580, 3835390401, 4022224774, 264347078, 604807628, 770255983, 1249150122, 1555081692, 1996064986, 2554220882, 2821834349, 2952996808, 3210313671, 3336571891, 3584528711, 113926993, 338241895, 666307205, 773529912, 1294757372, 1396182291, 1695183700, 1986661051, 2177026350, 2456956037, 2730485921, 2820302411, 3259730800, 3345764771, 3516065817, 3600352804, 4094571909, 275423344, 430227734, 506948616, 659060556, 883997877, 958139571, 1322822218, 1537002063, 1747873779, 1955562222, 2024104815, 2227730452, 2361852424, 2428436474, 2756734187, 3204031479, 3329325298]
def keyI (i : Nat) : Int := keyL.getD i 0
def Keys (w : World) : Prop := ∀ i, i < 64 → w.cell? ⟨2, i, none⟩ = some (.int .u32 (keyI i))
theorem Keys.below {w w' : World} {B : Nat} (h : Keys w) (hb : Below B w w') (hB : 2 < B) : Keys w' := fun i hi => by
  rw [hb.cell (p := ⟨2, i, none⟩) hB]; exact h i hi

/-- The eight registers. -/
structure Reg where
  (a b c d e f g h : Int)
def Reg.Bd (r : Reg) : Prop := (0 ≤ r.a ∧ r.a ≤ 4294967295) ∧ (0 ≤ r.b ∧ r.b ≤ 4294967295) ∧ (0 ≤ r.c ∧ r.c ≤ 4294967295) ∧ (0 ≤ r.d ∧ r.d ≤ 4294967295) ∧ (0 ≤ r.e ∧ r.e ≤ 4294967295) ∧ (0 ≤ r.f ∧ r.f ≤ 4294967295) ∧ (0 ≤ r.g ∧ r.g ≤ 4294967295) ∧ (0 ≤ r.h ∧ r.h ≤ 4294967295)
def Reg.cells (r : Reg) : List Value := [.int .u32 r.a, .int .u32 r.b, .int .u32 r.c, .int .u32 r.d, .int .u32 r.e, .int .u32 r.f, .int .u32 r.g, .int .u32 r.h]

noncomputable def Sg1 (e : Int) : Int := bits .xor .u32 (bits .xor .u32 (rotr e 6) (rotr e 11)) (rotr e 25)
noncomputable def Sg0 (a : Int) : Int := bits .xor .u32 (bits .xor .u32 (rotr a 2) (rotr a 13)) (rotr a 22)
noncomputable def chF (e f g : Int) : Int := bits .xor .u32 (bits .and .u32 e f) (bits .and .u32 (bits .xor .u32 IntKind.u32.max e) g)
noncomputable def majF (a b c : Int) : Int := bits .xor .u32 (bits .xor .u32 (bits .and .u32 a b) (bits .and .u32 a c)) (bits .and .u32 b c)
noncomputable def t1F (q : Reg) (k v : Int) : Int := (q.h + Sg1 q.e + chF q.e q.f q.g + k + v) % 4294967296
noncomputable def t2F (q : Reg) : Int := (Sg0 q.a + majF q.a q.b q.c) % 4294967296
noncomputable def rnd (q : Reg) (k v : Int) : Reg := ⟨(t1F q k v + t2F q) % 4294967296, q.a, q.b, q.c, (q.d + t1F q k v) % 4294967296, q.e, q.f, q.g⟩
noncomputable def rounds (s : ByteArray) (r : Reg) : Nat → Reg
  | 0 => r
  | k + 1 => rnd (rounds s r k) (keyI k) (schedW s k)
theorem rounds_bd {s : ByteArray} {r : Reg} (h : r.Bd) (k : Nat) : (rounds s r k).Bd := by
  induction k with
  | zero => exact h
  | succ k ih =>
    obtain ⟨h1, h2, h3, h4, h5, h6, h7, h8⟩ := ih
    refine ⟨?_, h1, h2, h3, ?_, h5, h6, h7⟩
    · show 0 ≤ (_ : Int) % 4294967296 ∧ (_ : Int) % 4294967296 ≤ _; omega
    · show 0 ≤ (_ : Int) % 4294967296 ∧ (_ : Int) % 4294967296 ≤ _; omega
noncomputable def addR (r q : Reg) : Reg := ⟨(r.a + q.a) % 4294967296, (r.b + q.b) % 4294967296, (r.c + q.c) % 4294967296, (r.d + q.d) % 4294967296, (r.e + q.e) % 4294967296, (r.f + q.f) % 4294967296, (r.g + q.g) % 4294967296, (r.h + q.h) % 4294967296⟩
noncomputable def mixR (s : ByteArray) (r : Reg) : Reg := addR r (rounds s r 64)
theorem addR_bd (r q : Reg) : (addR r q).Bd := by
  refine ⟨?_, ?_, ?_, ?_, ?_, ?_, ?_, ?_⟩ <;> (show 0 ≤ (_ : Int) % 4294967296 ∧ (_ : Int) % 4294967296 ≤ _; omega)

set_option maxHeartbeats 1600000 in
set_option maxRecDepth 1000000 in
theorem mix_any (s : ByteArray) (g B : Nat) (r : Reg) (x y : Value) (w : World) (hs : s.size = 64) (hg : Blk w g 132 (r.cells ++ [x, y])) (hK : Keys w) (hr : r.Bd) (hB : B ≤ g) (h1 : 2 < B) :
    Calls Tryd.prog 134 #[.pointer (some ⟨g, 0, none⟩), .string s] w fun e w' => e = .returned (.tuple #[]) ∧ Blk w' g 132 ((mixR s r).cells ++ [x, y]) ∧ Below B w w' := by
  have HS := Lib.hid hs
  clear hs
  go_enter Tryd.func134, Tryd.ntmps134
  go_wp2_with (first
    | (go_at_call 149; refine (schedule_any _ _ HS.out).mono ?_; rintro e w1 ⟨rfl, hb1⟩)
    | (with_reducible refine wpList_store_new rfl 173 (.tmp 4) (.tmp 19) rfl _ _ (ints .u32 64 (schedW s)) rfl rfl (by rw [infoA]; simp [ints]) (by simp [ints]) (ints_one _ _ _) ?_; intro w2 hW hb2))
  have hg2 := (hg.below hb1 hg.lt).below hb2 (Nat.lt_of_lt_of_le hg.lt hb1.size)
  have HG2 := Lib.hid hg2
  have hK2 := (hK.below hb1 (Nat.lt_of_lt_of_le (by omega) (Nat.le_of_lt hg.lt))).below hb2 (Nat.lt_of_lt_of_le (Nat.lt_of_lt_of_le (by omega) (Nat.le_of_lt hg.lt)) hb1.size)
  have HK2 := Lib.hid hK2
  clear hK2
  obtain ⟨ra, rb, rc, rd, re, rf, rg, rh⟩ := r
  have c0 : w2.cell? ⟨g, 0, none⟩ = some (.int .u32 ra) := hg2.cell rfl
  have c1 : w2.cell? ⟨g, 1, none⟩ = some (.int .u32 rb) := hg2.cell rfl
  have c2 : w2.cell? ⟨g, 2, none⟩ = some (.int .u32 rc) := hg2.cell rfl
  have c3 : w2.cell? ⟨g, 3, none⟩ = some (.int .u32 rd) := hg2.cell rfl
  have c4 : w2.cell? ⟨g, 4, none⟩ = some (.int .u32 re) := hg2.cell rfl
  have c5 : w2.cell? ⟨g, 5, none⟩ = some (.int .u32 rf) := hg2.cell rfl
  have c6 : w2.cell? ⟨g, 6, none⟩ = some (.int .u32 rg) := hg2.cell rfl
  have c7 : w2.cell? ⟨g, 7, none⟩ = some (.int .u32 rh) := hg2.cell rfl
  clear hg2
  go_quiet (fail)
  go_wp2
  go_loopw [5, 6, 7, 8, 9, 10, 11, 12, 13, 14, 15, 16, 17, 52] (fun sa sb sc sd se sf sg sh _ _ _ _ _ i wr => ∃ (k : Nat) (q : Reg) (n : Nat), k ≤ 64 ∧ Hid (q = rounds s ⟨ra, rb, rc, rd, re, rf, rg, rh⟩ k) ∧ i = .int .i64 k ∧ sa = .int .u32 q.a ∧ sb = .int .u32 q.b ∧ sc = .int .u32 q.c ∧ sd = .int .u32 q.d ∧ se = .int .u32 q.e ∧ sf = .int .u32 q.f ∧ sg = .int .u32 q.g ∧ sh = .int .u32 q.h ∧ wr = w2.drewN n)
    (fun _ _ _ _ _ _ _ _ _ _ _ _ _ i _ => 64 - (intOf i).toNat)
  case atStart => exact ⟨0, _, _, by omega, rfl, rfl, rfl, rfl, rfl, rfl, rfl, rfl, rfl, rfl, rfl⟩
  case round =>
    obtain ⟨k, q, n, hk, HQ, rfl, rfl, rfl, rfl, rfl, rfl, rfl, rfl, rfl, rfl⟩ := hrel
    have hq : q.Bd := by rw [HQ.out]; exact rounds_bd hr k
    obtain ⟨qa, qb, qc, qd, qe, qf, qg, qh⟩ := q
    obtain ⟨⟨a0, a1⟩, ⟨b0, b1⟩, ⟨cc0, cc1⟩, ⟨d0, d1⟩, ⟨e0, e1⟩, ⟨f0, f1⟩, ⟨g0, g1⟩, ⟨h0, hh1⟩⟩ := hq
    dsimp only at *
    by_cases hlt : k < 64
    · have x1 := hW.cell (ints_get (f := schedW s) (i := k) hlt)
      have x2 := HK2.out k hlt
      have hlt' : (k : Int) < 64 := by omega
      go_wp2_with (go_at_call 150; refine (rotated_any _ _ _ (by omega) (by omega) (by omega) (by omega)).mono ?_; rintro e w' ⟨rfl, rfl⟩)
      go_quiet (fail)
      go_wp2_with (go_at_call 150; refine (rotated_any _ _ _ (by omega) (by omega) (by omega) (by omega)).mono ?_; rintro e w' ⟨rfl, rfl⟩)
      exact ⟨⟨k + 1, rnd ⟨qa, qb, qc, qd, qe, qf, qg, qh⟩ (keyI k) (schedW s k), n + nq, by omega, by unfold Hid; rw [HQ.out]; rfl, by go_num, rfl, rfl, rfl, rfl, rfl, rfl, rfl, rfl, rfl⟩, by simp [intOf]; omega⟩
    · obtain rfl : k = 64 := by omega
      have fz : ∀ i, w2.frozen? ⟨g, i, none⟩ = false := HG2.out.froz
      have z0 := fz 0
      have z1 := fz 1
      have z2 := fz 2
      have z3 := fz 3
      have z4 := fz 4
      have z5 := fz 5
      have z6 := fz 6
      have z7 := fz 7
      clear fz
      go_wp2
      go_region
      go_wp2
      go_region
      go_wp2
      go_region
      go_wp2
      go_region
      go_wp2
      go_region
      go_wp2
      go_region
      go_wp2
      go_region
      go_wp2
      go_region
      go_wp2
      go_end0
      have hp := ((((((((HG2.out.drewN (n + 1)).put 0 (.int .u32 ((ra + qa) % 4294967296))).put 1 (.int .u32 ((rb + qb) % 4294967296))).put 2 (.int .u32 ((rc + qc) % 4294967296))).put 3 (.int .u32 ((rd + qd) % 4294967296))).put 4 (.int .u32 ((re + qe) % 4294967296))).put 5 (.int .u32 ((rf + qf) % 4294967296))).put 6 (.int .u32 ((rg + qg) % 4294967296))).put 7 (.int .u32 ((rh + qh) % 4294967296))
      have hx : Below B w w2 := by
        have hl := hg.lt
        have hz := hb1.size
        exact (hb1.mono (by omega)).trans (hb2.mono (by omega))
      refine ⟨rfl, ?_, ?_⟩
      · unfold mixR
        rw [← HQ.out]
        exact hp.drew.drew.drew.drew.drew.drew.drew
      · exact below_drew (below_drew (below_drew (below_drew (below_drew (below_drew (below_drew ((((((((((below_drewN hx (n + 1)).setCell hB _).setCell hB _).setCell hB _).setCell hB _).setCell hB _).setCell hB _).setCell hB _).setCell hB _))))))))
end Go.Proofs.YtodnmbppgjbpmaaDoor

namespace Go.Proofs.YtodnmbppgjbpmaaDoor
open Go.RowKit
set_option linter.unusedVariables false

/-- The four bytes of a word, the highest first. -/
def be4 (x : Int) : List Int := [x / 16777216, x / 65536 % 256, x / 256 % 256, x % 256]
def Reg.list (r : Reg) : List Int := [r.a, r.b, r.c, r.d, r.e, r.f, r.g, r.h]
def Reg.bytes (r : Reg) : List Int := r.list.flatMap be4
theorem new_cells (w : World) (cs : List Value) (t : TypeId) : ∀ j u, cs[j]? = some u → (w.alloc (.cells cs.toArray t)).cell? ((⟨w.heap.size, 0, none⟩ : Addr).add j) = some u := by
  intro j u hj
  have hadd : (⟨w.heap.size, 0, none⟩ : Addr).add j = ⟨w.heap.size, j, none⟩ := by unfold Addr.add; split <;> simp_all
  rw [hadd]; exact (Blk.fresh w t cs).cell hj
theorem be4_one (x : Int) : ∀ u ∈ (be4 x).map (Value.int .u8), u.oneCell' = true := by intro u hu; simp [be4] at hu; rcases hu with rfl | rfl | rfl | rfl <;> rfl
theorem list_len (r : Reg) : r.list.length = 8 := rfl
def Reg.upto (r : Reg) (k : Nat) : List Int := (r.list.take k).flatMap be4
theorem upto_len (r : Reg) (k : Nat) (h : k ≤ 8) : (r.upto k).length = 4 * k := by
  unfold Reg.upto
  match k, h with
  | 0, _ | 1, _ | 2, _ | 3, _ | 4, _ | 5, _ | 6, _ | 7, _ | 8, _ => simp [Reg.list, be4]
def Reg.at_ (r : Reg) (k : Nat) : Int := r.list.getD k 0
theorem upto_succ (r : Reg) (k : Nat) (h : k < 8) : r.upto (k + 1) = r.upto k ++ be4 (r.at_ k) := by
  unfold Reg.upto Reg.at_
  rw [List.take_succ_eq_append_getElem (by rw [list_len]; exact h), List.flatMap_append]
  rw [List.getD, List.getElem?_eq_getElem (by rw [list_len]; exact h)]; simp
theorem Reg.at_bd {r : Reg} (h : r.Bd) (k : Nat) : 0 ≤ r.at_ k ∧ r.at_ k ≤ 4294967295 := by
  obtain ⟨h1, h2, h3, h4, h5, h6, h7, h8⟩ := h
  unfold Reg.at_
  match k with
  | 0 => exact h1
  | 1 => exact h2
  | 2 => exact h3
  | 3 => exact h4
  | 4 => exact h5
  | 5 => exact h6
  | 6 => exact h7
  | 7 => exact h8
  | n + 8 => simp [Reg.list]
theorem Reg.cell_at (r : Reg) (k : Nat) (h : k < 8) (x y : Value) : (r.cells ++ [x, y])[k]? = some (.int .u32 (r.at_ k)) := by
  match k, h with
  | 0, _ | 1, _ | 2, _ | 3, _ | 4, _ | 5, _ | 6, _ | 7, _ => rfl

set_option maxHeartbeats 1600000 in
set_option maxRecDepth 1000000 in
theorem text_any (g : Nat) (r : Reg) (x y : Value) (w : World) (hg : Blk w g 132 (r.cells ++ [x, y])) (hr : r.Bd) :
    Calls Tryd.prog 137 #[.pointer (some ⟨g, 0, none⟩)] w fun e w' => e = .returned (.string (strOfNums r.bytes)) ∧ Below w.heap.size w w' := by
  obtain ⟨i0, hi, hz0, hz1, hz2⟩ := info_parts infoU8
  go_enter Tryd.func137, Tryd.ntmps137
  go_wp2_with (at_make; refine wpList_make_own _ rfl _ _ 22 rfl w.heap.size 5 i0 (.int .u8 0) 1 Tryd.underlying22 hi hz0 hz1 _ _ _ 32 rfl rfl rfl (by rw [hz2]; omega) (by unfold maxLen; omega) (Nat.le_refl _) ?_; intro w1 hown1 hgrow1)
  have hb1 := (Below.refl w.heap.size w).grown hgrow1 (Nat.le_refl _) (fun k e => by cases e)
  clear hgrow1
  go_loopw [3, 5, 8] (fun v _ i wr => ∃ k : Nat, k ≤ 8 ∧ i = .int .i64 k ∧ wr.ownsRow w.heap.size 5 1 v (r.upto k).length ((r.upto k).map (Value.int .u8)) ∧ Below w.heap.size w wr) (fun _ _ i _ => 8 - (intOf i).toNat)
  case atStart => exact ⟨0, by omega, rfl, hown1, hb1⟩
  case round =>
    clear hown1 hb1
    obtain ⟨k, hk, rfl, hown, hb⟩ := hrel
    by_cases hlt : k < 8
    · have c1 := (hg.below hb hg.lt).cell (r.cell_at k hlt x y)
      obtain ⟨q0, q1⟩ := Reg.at_bd hr k
      have hl := Lib.hid (upto_len r k hk)
      have HL := hl
      have hlt' : (k : Int) < 8 := by omega
      have hs := hb.size
      go_wp2_with (at_builtin; refine wpList_append_own _ rfl _ _ 22 rfl w.heap.size 5 i0 (.int .u8 0) 1 1 Tryd.underlying22 hi hz0 hz1 hz2 rfl (by decide) _ _ _ rfl (hown.alloc _) ⟨wr.heap.size, 0, none⟩ 4 4 ((be4 (r.at_ k)).map (Value.int .u8)) rfl rfl (new_cells _ _ _) (be4_one _) (by rw [HL.out]; unfold maxLen; omega) (by rw [HL.out]; omega) (by simp; omega) ?_; intro v' w' hown' hgrow' hne; clear hne)
      have e1 := upto_succ r k hlt
      refine ⟨⟨k + 1, by omega, by go_num, ?_, below_app hb (Nat.le_refl _) hown hgrow'⟩, by simp [intOf]; omega⟩
      rw [e1, List.map_append, List.length_append]
      exact hown'
    · obtain rfl : k = 8 := by omega
      have hcv := own_string hown
      go_wp2
      go_ret
      exact ⟨rfl, hb⟩

theorem ints_map (k : IntKind) (n : Nat) (f : Nat → Int) : ints k n f = ((List.range n).map f).map (Value.int k) := by simp [ints]
theorem conv_ints {w : World} {g n : Nat} {f : Nat → Int} (hn : n ≤ 1048576) (h : Blk w g 5 (ints .u8 n f)) :
    (convert 22 9 (.slice (some ⟨g, 0, none⟩) n n)).run Tryd.prog w = .ok (.string (strOfNums ((List.range n).map f))) w := by
  have h1 := own_block (base := 0) (Nat.zero_le g) (by rw [ints_len]; unfold maxLen; omega) h.heap
  rw [ints_len, ints_map] at h1
  exact own_string h1
/-- The eight bytes of a number, the highest first. -/
def be8 (n : Nat) : List Int := (List.range 8).map fun j => ((n / 256 ^ (7 - j) % 256 : Nat) : Int)
def be8to (n k : Nat) : Nat → Int := fun j => if 8 - k ≤ j then ((n / 256 ^ (7 - j) % 256 : Nat) : Int) else 0
theorem be8_set (n k a : Nat) (ha : a + k = 7) : (ints .u8 8 (be8to n k)).set a (.int .u8 ((n / 256 ^ k % 256 : Nat) : Int)) = ints .u8 8 (be8to n (k + 1)) := by
  rw [ints_set (by omega)]; apply ints_congr; intro i hi; unfold be8to
  by_cases e : i = a
  · subst e; rw [if_pos rfl, if_pos (by omega), show 7 - i = k by omega]
  · rw [if_neg e]; by_cases g : 8 - k ≤ i
    · rw [if_pos g, if_pos (by omega)]
    · rw [if_neg g, if_neg (by omega)]
theorem be8_zero (n : Nat) : ints .u8 8 (be8to n 0) = List.replicate 8 (.int .u8 0) := rfl
theorem be8_all (n : Nat) : ints .u8 8 (be8to n 8) = ints .u8 8 (fun j => ((n / 256 ^ (7 - j) % 256 : Nat) : Int)) := ints_congr fun i hi => by unfold be8to; rw [if_pos (by omega)]
theorem mk8 (w : World) : (Instr.makeSlice 22 (.int .i64 8) (.int .i64 8)).run Tryd.prog w = .ok (.slice (some ⟨w.heap.size, 0, none⟩) 8 8) (w.alloc (.cells (List.replicate 8 (.int .u8 0)).toArray 5)) := by kernel_rfl

set_option maxHeartbeats 1600000 in
set_option maxRecDepth 1000000 in
theorem lengthText_any (n : Nat) (w : World) (hn : n < 18446744073709551616) :
    Calls Tryd.prog 135 #[.int .u64 n] w fun e w' => e = .returned (.string (strOfNums (be8 n))) ∧ Below w.heap.size w w' := by
  have hmk := mk8
  have HN := Lib.hid hn
  clear hn
  go_enter Tryd.func135, Tryd.ntmps135
  go_wp2
  go_loopw [0, 4, 8] (fun x _ i wr => ∃ (k m : Nat), k ≤ 8 ∧ Hid (m = n / 256 ^ k) ∧ i = .int .i64 k ∧ x = .int .u64 m ∧ Blk wr w.heap.size 5 (ints .u8 8 (be8to n k)) ∧ Below w.heap.size w wr) (fun _ _ i _ => 8 - (intOf i).toNat)
  case atStart =>
    exact ⟨0, n, by omega, by unfold Hid; simp, rfl, rfl, by rw [be8_zero]; exact Blk.fresh w _ _, (Below.refl _ _).alloc (Nat.le_refl _) _⟩
  case round =>
    obtain ⟨k, m, hk, HM, rfl, rfl, hB, hb⟩ := hrel
    have hm : m ≤ n := by rw [HM.out]; exact Nat.div_le_self _ _
    have HN' : Hid (m < 18446744073709551616) := Nat.lt_of_le_of_lt hm HN.out
    by_cases hlt : k < 8
    · obtain ⟨a, HA⟩ : ∃ a, Hid (a + k = 7) := ⟨7 - k, by unfold Hid; omega⟩
      have hA := HA.out
      have e7 : (7 : Int) - k = (a : Int) := by omega
      have c1 := hB.cell (ints_get (f := be8to n k) (i := a) (by omega))
      have f1 := hB.froz a
      have a8 : a < 8 := by omega
      have hlt' : (k : Int) < 8 := by omega
      clear hA
      have hm3 : (m : Int) ≤ 18446744073709551615 := by have := HN'.out; omega
      go_wp2
      have hp := hB.put a (.int .u8 ((n / 256 ^ k % 256 : Nat) : Int))
      rw [be8_set n k a HA.out, ← HM.out] at hp
      refine ⟨⟨k + 1, m / 256, by omega, ?_, by go_num, by go_num, ?_, hb.setCell (Nat.le_refl _) _⟩, by simp [intOf]; omega⟩
      · unfold Hid; rw [HM.out, Nat.div_div_eq_div_mul, Nat.pow_succ]
      · have e : ((m % 256 : Nat) : Int) = (m : Int) % 256 := by omega
        rw [e] at hp
        exact hp
    · obtain rfl : k = 8 := by omega
      rw [be8_all] at hB
      have hcv : (convert 22 9 (.slice (some ⟨w.heap.size, 0, none⟩) 8 8)).run Tryd.prog wr = .ok (.string (strOfNums (be8 n))) wr := conv_ints (by omega) hB
      go_wp2
      go_ret
      exact ⟨rfl, hb⟩

/-- A key of 64 bytes, each put together with a byte. -/
noncomputable def padL (key : ByteArray) (p : Int) : List Int := (List.range 64).map fun j => bits .xor .u8 (byteI key j) p
noncomputable def padto (key : ByteArray) (p : Int) (k : Nat) : Nat → Int := fun j => if j < k then bits .xor .u8 (byteI key j) p else byteI key j
theorem padto_set (key : ByteArray) (p : Int) (k : Nat) (h : k < 64) : (ints .u8 64 (padto key p k)).set k (.int .u8 (bits .xor .u8 (byteI key k) p)) = ints .u8 64 (padto key p (k + 1)) := by
  rw [ints_set h]; apply ints_congr; intro i hi; unfold padto
  by_cases e : i = k
  · subst e; rw [if_pos rfl, if_pos (by omega)]
  · rw [if_neg e]; by_cases g : i < k
    · rw [if_pos g, if_pos (by omega)]
    · rw [if_neg g, if_neg (by omega)]
theorem padto_all (key : ByteArray) (p : Int) : ints .u8 64 (padto key p 64) = ints .u8 64 (fun j => bits .xor .u8 (byteI key j) p) := ints_congr fun i hi => by unfold padto; rw [if_pos hi]
def zeros8 (n : Nat) : List Value := List.replicate n (.int .u8 0)
theorem zeros8_len (n : Nat) : (zeros8 n).length = n := by simp [zeros8]
theorem padto_zero (key : ByteArray) (p : Int) (h : key.size ≤ 64) : splice (zeros8 64) 0 (Lib.byteCells key.data.toList) = ints .u8 64 (padto key p 0) := by
  have hl : (Lib.byteCells key.data.toList).length = key.size := bc_len key
  apply List.ext_getElem?
  intro i
  unfold splice ints padto zeros8
  rw [List.take_zero, List.nil_append, Nat.zero_add, hl]
  by_cases hi : i < key.size
  · rw [List.getElem?_append_left (by omega)]
    have h64 : i < 64 := by omega
    simp [Lib.byteCells, h64, byteI, hi]
    rfl
  · rw [List.getElem?_append_right (by omega), hl, List.getElem?_drop, List.getElem?_replicate]
    by_cases h64 : i < 64
    · rw [if_pos (by omega)]; simp [h64, byteI, hi]
    · rw [if_neg (by omega)]; simp [h64]
theorem mk64 (w : World) : (Instr.makeSlice 22 (.int .i64 64) (.int .i64 64)).run Tryd.prog w = .ok (.slice (some ⟨w.heap.size, 0, none⟩) 64 64) (w.alloc (.cells (zeros8 64).toArray 5)) := by kernel_rfl

set_option maxHeartbeats 1600000 in
set_option maxRecDepth 1000000 in
theorem padded_any (key : ByteArray) (p : Int) (w : World) (hs : key.size ≤ 64) (p0 : 0 ≤ p) (p1 : p ≤ 255) :
    Calls Tryd.prog 94 #[.string key, .int .u8 p] w fun e w' => e = .returned (.string (strOfNums (padL key p))) ∧ Below w.heap.size w w' := by
  have hmk := mk64
  have hb0 : Hid (Blk (w.alloc (.cells (zeros8 64).toArray 5)) w.heap.size 5 (zeros8 64)) := Blk.fresh w _ _
  go_enter Tryd.func94, Tryd.ntmps94
  go_wp2_with (with_reducible refine wpList_copy_str rfl (.tmp 8) (.tmp 9) 22 9 rfl 5 Tryd.underlying22 sizeU8 _ _ _ key rfl rfl w.heap.size 0 _ 5 hb0.out.heap (by omega) (fun _ => rfl) (by rw [zeros8_len]; omega) w.heap.size w ((Below.refl _ _).alloc (Nat.le_refl _) _) (Nat.le_refl _) ?_; intro w2 HG2 hb2)
  have hB0 : Blk w2 w.heap.size 5 (ints .u8 64 (padto key p 0)) := by
    have := HG2.out
    rw [padto_zero key p hs] at this
    exact this
  go_loopw [6, 13] (fun _ i wr => ∃ (k : Nat), k ≤ 64 ∧ i = .int .i64 k ∧ Blk wr w.heap.size 5 (ints .u8 64 (padto key p k)) ∧ Below w.heap.size w wr) (fun _ i _ => 64 - (intOf i).toNat)
  case atStart => exact ⟨0, by omega, rfl, hB0, hb2⟩
  case round =>
    clear hB0 HG2 hb2
    obtain ⟨k, hk, rfl, hB, hb⟩ := hrel
    by_cases hlt : k < 64
    · have hp := hB.put k (.int .u8 (bits .xor .u8 (byteI key k) p))
      rw [padto_set key p k hlt] at hp
      have e0 : padto key p k k = byteI key k := by unfold padto; rw [if_neg (by omega)]
      have c1 := hB.cell (ints_get (f := padto key p k) (i := k) hlt)
      rw [e0] at c1
      clear e0
      have f1 := hB.froz k
      have hlt' : (k : Int) < 64 := by omega
      have HP := Lib.hid hp
      clear hp
      go_wp2
      exact ⟨⟨k + 1, by omega, by go_num, HP.out, hb.setCell (Nat.le_refl _) _⟩, by simp [intOf]; omega⟩
    · obtain rfl : k = 64 := by omega
      rw [padto_all] at hB
      have hcv : (convert 22 9 (.slice (some ⟨w.heap.size, 0, none⟩) 64 64)).run Tryd.prog wr = .ok (.string (strOfNums (padL key p))) wr := conv_ints (by omega) hB
      go_wp2
      go_ret
      exact ⟨rfl, hb⟩
end Go.Proofs.YtodnmbppgjbpmaaDoor
