/- One block taken into the state: mix. -/
import Derived.Test.YtahfpcagblcdmaaDoorSched
namespace Go.Proofs.YtahfpcagblcdmaaDoor
open Go.RowKit
set_option linter.unusedVariables false

/-- The numbers of the rounds. -/
def keyL : List Int := [1116352408, 1899447441, 3049323471, 3921009573, 961987163, 1508970993, 2453635748, 2870763221, 3624381080, 310598401, 607225278, 1426881987, 1925078388, 2162078206, 2614888103, 3248222580, 3835390401, 4022224774, 264347078, 604807628, 770255983, 1249150122, 1555081692, 1996064986, 2554220882, 2821834349, 2952996808, 3210313671, 3336571891, 3584528711, 113926993, 338241895, 666307205, 773529912, 1294757372, 1396182291, 1695183700, 1986661051, 2177026350, 2456956037, 2730485921, 2820302411, 3259730800, 3345764771, 3516065817, 3600352804, 4094571909, 275423344, 430227734, 506948616, 659060556, 883997877, 958139571, 1322822218, 1537002063, 1747873779, 1955562222, 2024104815, 2227730452, 2361852424, 2428436474, 2756734187, 3204031479, 3329325298]
def keyI (i : Nat) : Int := keyL.getD i 0
def Keys (w : World) : Prop := ∀ i, i < 64 → w.cell? ⟨0, i, none⟩ = some (.int .u32 (keyI i))
theorem Keys.below {w w' : World} {B : Nat} (h : Keys w) (hb : Below B w w') (hB : 0 < B) : Keys w' := fun i hi => by
  rw [hb.cell (p := ⟨0, i, none⟩) hB]; exact h i hi

/-- The eight registers. -/
structure Reg where
  (a b c d e f g h : Int)
def Reg.Bd (r : Reg) : Prop := (0 ≤ r.a ∧ r.a ≤ 4294967295) ∧ (0 ≤ r.b ∧ r.b ≤ 4294967295) ∧ (0 ≤ r.c ∧ r.c ≤ 4294967295) ∧ (0 ≤ r.d ∧ r.d ≤ 4294967295) ∧ (0 ≤ r.e ∧ r.e ≤ 4294967295) ∧ (0 ≤ r.f ∧ r.f ≤ 4294967295) ∧ (0 ≤ r.g ∧ r.g ≤ 4294967295) ∧ (0 ≤ r.h ∧ r.h ≤ 4294967295)
def Reg.cells (r : Reg) : List Value := [.int .u32 r.a, .int .u32 r.b, .int .u32 r.c, .int .u32 r.d, .int .u32 r.e, .int .u32 r.f, .int .u32 r.g, .int .u32 r.h]

noncomputable def Sg1 (e : Int) : Int := bits .xor .u32 (bits .xor .u32 (rotr e 6) (rotr e 11)) (rotr e 25)
noncomputable def Sg0 (a : Int) : Int := bits .xor .u32 (bits .xor .u32 (rotr a 2) (rotr a 13)) (rotr a 22)
noncomputable def chF (e f g : Int) : Int := bits .xor .u32 (bits .and .u32 e f) (bits .and .u32 (bits .xor .u32 IntKind.u32.max e) g)
noncomputable def majF (a b c : Int) : Int := bits .xor .u32 (bits .xor .u32 (bits .and .u32 a b) (bits .and .u32 a c)) (bits .and .u32 b c)
noncomputable def t1F (q : Reg) (k v : Int) : Int := (q.h + Sg1 q.e + chF q.e q.f q.g + k + v) % 4294967296
noncomputable def t2F (q : Reg) : Int := (Sg0 q.a + majF q.a q.b q.c) % 4294967296
noncomputable def rnd (q : Reg) (k v : Int) : Reg := ⟨(t1F q k v + t2F q) % 4294967296, q.a, q.b, q.c, (q.d + t1F q k v) % 4294967296, q.e, q.f, q.g⟩
noncomputable def rounds (s : ByteArray) (r : Reg) : Nat → Reg
  | 0 => r
  | k + 1 => rnd (rounds s r k) (keyI k) (schedW s k)
theorem rounds_bd {s : ByteArray} {r : Reg} (h : r.Bd) (k : Nat) : (rounds s r k).Bd := by
  induction k with
  | zero => exact h
  | succ k ih =>
    obtain ⟨h1, h2, h3, h4, h5, h6, h7, h8⟩ := ih
    refine ⟨?_, h1, h2, h3, ?_, h5, h6, h7⟩
    · show 0 ≤ (_ : Int) % 4294967296 ∧ (_ : Int) % 4294967296 ≤ _; omega
    · show 0 ≤ (_ : Int) % 4294967296 ∧ (_ : Int) % 4294967296 ≤ _; omega
noncomputable def addR (r q : Reg) : Reg := ⟨(r.a + q.a) % 4294967296, (r.b + q.b) % 4294967296, (r.c + q.c) % 4294967296, (r.d + q.d) % 4294967296, (r.e + q.e) % 4294967296, (r.f + q.f) % 4294967296, (r.g + q.g) % 4294967296, (r.h + q.h) % 4294967296⟩
noncomputable def mixR (s : ByteArray) (r : Reg) : Reg := addR r (rounds s r 64)
theorem addR_bd (r q : Reg) : (addR r q).Bd := by
  refine ⟨?_, ?_, ?_, ?_, ?_, ?_, ?_, ?_⟩ <;> (show 0 ≤ (_ : Int) % 4294967296 ∧ (_ : Int) % 4294967296 ≤ _; omega)

set_option maxHeartbeats 1600000 in
set_option maxRecDepth 1000000 in
theorem mix_any (s : ByteArray) (g B : Nat) (r : Reg) (x y : Value) (w : World) (hs : s.size = 64) (hg : Blk w g 51 (r.cells ++ [x, y])) (hK : Keys w) (hr : r.Bd) (hB : B ≤ g) (h1 : 1 ≤ B) :
    Calls Tryd.prog 35 #[.pointer (some ⟨g, 0, none⟩), .string s] w fun e w' => e = .returned (.tuple #[]) ∧ Blk w' g 51 ((mixR s r).cells ++ [x, y]) ∧ Below B w w' := by
  have HS := Lib.hid hs
  clear hs
  go_enter Tryd.func35, Tryd.ntmps35
  go_wp2_with (first
    | (go_at_call 41; refine (schedule_any _ _ HS.out).mono ?_; rintro e w1 ⟨rfl, hb1⟩)
    | (with_reducible refine wpList_store_new rfl 65 (.tmp 4) (.tmp 19) rfl _ _ (ints .u32 64 (schedW s)) rfl rfl (by rw [infoA]; simp [ints]) (by simp [ints]) (ints_one _ _ _) ?_; intro w2 hW hb2))
  have hg2 := (hg.below hb1 hg.lt).below hb2 (Nat.lt_of_lt_of_le hg.lt hb1.size)
  have HG2 := Lib.hid hg2
  have hK2 := (hK.below hb1 (Nat.lt_of_lt_of_le (by omega) (Nat.le_of_lt hg.lt))).below hb2 (Nat.lt_of_lt_of_le (Nat.lt_of_lt_of_le (by omega) (Nat.le_of_lt hg.lt)) hb1.size)
  have HK2 := Lib.hid hK2
  clear hK2
  obtain ⟨ra, rb, rc, rd, re, rf, rg, rh⟩ := r
  have c0 : w2.cell? ⟨g, 0, none⟩ = some (.int .u32 ra) := hg2.cell rfl
  have c1 : w2.cell? ⟨g, 1, none⟩ = some (.int .u32 rb) := hg2.cell rfl
  have c2 : w2.cell? ⟨g, 2, none⟩ = some (.int .u32 rc) := hg2.cell rfl
  have c3 : w2.cell? ⟨g, 3, none⟩ = some (.int .u32 rd) := hg2.cell rfl
  have c4 : w2.cell? ⟨g, 4, none⟩ = some (.int .u32 re) := hg2.cell rfl
  have c5 : w2.cell? ⟨g, 5, none⟩ = some (.int .u32 rf) := hg2.cell rfl
  have c6 : w2.cell? ⟨g, 6, none⟩ = some (.int .u32 rg) := hg2.cell rfl
  have c7 : w2.cell? ⟨g, 7, none⟩ = some (.int .u32 rh) := hg2.cell rfl
  clear hg2
  go_quiet (fail)
  go_wp2
  go_loopw [5, 6, 7, 8, 9, 10, 11, 12, 13, 14, 15, 16, 17, 52] (fun sa sb sc sd se sf sg sh _ _ _ _ _ i wr => ∃ (k : Nat) (q : Reg) (n : Nat), k ≤ 64 ∧ Hid (q = rounds s ⟨ra, rb, rc, rd, re, rf, rg, rh⟩ k) ∧ i = .int .i64 k ∧ sa = .int .u32 q.a ∧ sb = .int .u32 q.b ∧ sc = .int .u32 q.c ∧ sd = .int .u32 q.d ∧ se = .int .u32 q.e ∧ sf = .int .u32 q.f ∧ sg = .int .u32 q.g ∧ sh = .int .u32 q.h ∧ wr = w2.drewN n)
    (fun _ _ _ _ _ _ _ _ _ _ _ _ _ i _ => 64 - (intOf i).toNat)
  case atStart => exact ⟨0, _, _, by omega, rfl, rfl, rfl, rfl, rfl, rfl, rfl, rfl, rfl, rfl, rfl⟩
  case round =>
    obtain ⟨k, q, n, hk, HQ, rfl, rfl, rfl, rfl, rfl, rfl, rfl, rfl, rfl, rfl⟩ := hrel
    have hq : q.Bd := by rw [HQ.out]; exact rounds_bd hr k
    obtain ⟨qa, qb, qc, qd, qe, qf, qg, qh⟩ := q
    obtain ⟨⟨a0, a1⟩, ⟨b0, b1⟩, ⟨cc0, cc1⟩, ⟨d0, d1⟩, ⟨e0, e1⟩, ⟨f0, f1⟩, ⟨g0, g1⟩, ⟨h0, hh1⟩⟩ := hq
    dsimp only at *
    by_cases hlt : k < 64
    · have x1 := hW.cell (ints_get (f := schedW s) (i := k) hlt)
      have x2 := HK2.out k hlt
      have hlt' : (k : Int) < 64 := by omega
      go_wp2_with (go_at_call 42; refine (rotated_any _ _ _ (by omega) (by omega) (by omega) (by omega)).mono ?_; rintro e w' ⟨rfl, rfl⟩)
      go_quiet (fail)
      go_wp2_with (go_at_call 42; refine (rotated_any _ _ _ (by omega) (by omega) (by omega) (by omega)).mono ?_; rintro e w' ⟨rfl, rfl⟩)
      exact ⟨⟨k + 1, rnd ⟨qa, qb, qc, qd, qe, qf, qg, qh⟩ (keyI k) (schedW s k), n + nq, by omega, by unfold Hid; rw [HQ.out]; rfl, by go_num, rfl, rfl, rfl, rfl, rfl, rfl, rfl, rfl, rfl⟩, by simp [intOf]; omega⟩
    · obtain rfl : k = 64 := by omega
      have fz : ∀ i, w2.frozen? ⟨g, i, none⟩ = false := HG2.out.froz
      have z0 := fz 0
      have z1 := fz 1
      have z2 := fz 2
      have z3 := fz 3
      have z4 := fz 4
      have z5 := fz 5
      have z6 := fz 6
      have z7 := fz 7
      clear fz
      go_wp2
      go_region
      go_wp2
      go_region
      go_wp2
      go_region
      go_wp2
      go_region
      go_wp2
      go_region
      go_wp2
      go_region
      go_wp2
      go_region
      go_wp2
      go_region
      go_wp2
      go_end0
      have hp := ((((((((HG2.out.drewN (n + 1)).put 0 (.int .u32 ((ra + qa) % 4294967296))).put 1 (.int .u32 ((rb + qb) % 4294967296))).put 2 (.int .u32 ((rc + qc) % 4294967296))).put 3 (.int .u32 ((rd + qd) % 4294967296))).put 4 (.int .u32 ((re + qe) % 4294967296))).put 5 (.int .u32 ((rf + qf) % 4294967296))).put 6 (.int .u32 ((rg + qg) % 4294967296))).put 7 (.int .u32 ((rh + qh) % 4294967296))
      have hx : Below B w w2 := by
        have hl := hg.lt
        have hz := hb1.size
        exact (hb1.mono (by omega)).trans (hb2.mono (by omega))
      refine ⟨rfl, ?_, ?_⟩
      · unfold mixR
        rw [← HQ.out]
        exact hp.drew.drew.drew.drew.drew.drew.drew
      · exact below_drew (below_drew (below_drew (below_drew (below_drew (below_drew (below_drew ((((((((((below_drewN hx (n + 1)).setCell hB _).setCell hB _).setCell hB _).setCell hB _).setCell hB _).setCell hB _).setCell hB _).setCell hB _))))))))
end Go.Proofs.YtahfpcagblcdmaaDoor
