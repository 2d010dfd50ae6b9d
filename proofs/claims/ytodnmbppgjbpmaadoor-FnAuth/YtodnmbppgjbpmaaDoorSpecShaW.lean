/- Authentication: the key of a pair and the codes, as byte strings. The specification's block. A row of bytes that the call owns, told by its cells: what a conversion of a string leaves, and appends to it. The specification's digest: it answers the same string. -/
import Derived.Test.YtodnmbppgjbpmaaDoorStrBW
import Derived.Test.YtodnmbppgjbpmaaDoorPadW
import Derived.StillTailTactics
import Derived.Deep.DeepFit
import Derived.Laws.AppendOwn
import Derived.Deep.RegionHeld3
import Derived.Deep.AppendLies
import Derived.Test.YtodnmbppgjbpmaaDoorBlkW
import Derived.Lib.ConvBytes
import Derived.ArgAppend
import Derived.Laws.IdiomCopy
namespace Go.Proofs.YtodnmbppgjbpmaaDoor
open Go.RowKit
set_option linter.unusedVariables false

/-- Is it the number of a replica? -/
def Who (n : Int) : Prop := 0 ≤ n ∧ n ≤ 3
instance (n : Int) : Decidable (Who n) := by unfold Who; exact inferInstance
/-- Is it a secret? -/
def Sec (k : ByteArray) : Prop := 1 ≤ k.size ∧ k.size ≤ 60
instance (k : ByteArray) : Decidable (Sec k) := by unfold Sec; exact inferInstance
/-- The key of two different replicas. -/
noncomputable def pairB (k : ByteArray) (a b : Nat) : ByteArray := sha (k ++ (decB (min a b) ++ decB (max a b)))
theorem pairB_size (k : ByteArray) (a b : Nat) : (pairB k a b).size = 32 := sha_size _
theorem pairB_comm (k : ByteArray) (a b : Nat) : pairB k a b = pairB k b a := by unfold pairB; rw [Nat.min_comm, Nat.max_comm]
theorem pairB_lt {k : ByteArray} {a b : Nat} (h : a ≤ b) : pairB k a b = sha (k ++ (decB a ++ decB b)) := by unfold pairB; rw [Nat.min_eq_left h, Nat.max_eq_right h]
theorem pairB_gt {k : ByteArray} {a b : Nat} (h : b ≤ a) : pairB k a b = sha (k ++ (decB b ++ decB a)) := by rw [pairB_comm, pairB_lt h]
/-- What PairKey answers. -/
noncomputable def keyB (k : ByteArray) (a b : Int) : ByteArray := if Sec k ∧ Who a ∧ Who b ∧ a ≠ b then pairB k a.toNat b.toNat else ⟨#[]⟩
theorem keyB_in {k : ByteArray} {a b : Int} (h : Sec k ∧ Who a ∧ Who b ∧ a ≠ b) : keyB k a b = pairB k a.toNat b.toNat := if_pos h
theorem keyB_out {k : ByteArray} {a b : Int} (h : ¬ (Sec k ∧ Who a ∧ Who b ∧ a ≠ b)) : keyB k a b = ⟨#[]⟩ := if_neg h
theorem keyB_comm (k : ByteArray) (a b : Int) : keyB k a b = keyB k b a := by
  by_cases h : Sec k ∧ Who a ∧ Who b ∧ a ≠ b
  · rw [keyB_in h, keyB_in ⟨h.1, h.2.2.1, h.2.1, fun e => h.2.2.2 e.symm⟩, pairB_comm]
  · rw [keyB_out h, keyB_out (fun g => h ⟨g.1, g.2.2.1, g.2.1, fun e => g.2.2.2 e.symm⟩)]
theorem keyB_size (k : ByteArray) (a b : Int) : (keyB k a b).size ≤ 32 := by
  by_cases h : Sec k ∧ Who a ∧ Who b ∧ a ≠ b
  · rw [keyB_in h, pairB_size]; omega
  · rw [keyB_out h]; exact Nat.zero_le _
theorem keyB_pos {k : ByteArray} {a b : Int} (h : Sec k ∧ Who a ∧ Who b ∧ a ≠ b) : (keyB k a b).size = 32 := by rw [keyB_in h, pairB_size]
/-- A digit. -/
theorem decB_one (n : Nat) (h : n < 10) : decB n = ⟨#[UInt8.ofNat (48 + n)]⟩ := by unfold decB; rw [Lib.decDigits_one h]
theorem decB_small (n : Nat) (h : n < 10) : (decB n).size = 1 := by rw [decB_one n h]; rfl
/-- The code of a text with a key. -/
noncomputable def cutB (key t : ByteArray) : ByteArray := (mac key t).extract 0 8
theorem cutB_size (key t : ByteArray) : (cutB key t).size = 8 := by unfold cutB; rw [ByteArray.size_extract, mac_size]; rfl
/-- The code of a text from one replica for another. -/
noncomputable def codeB (k : ByteArray) (f i : Nat) (t : ByteArray) : ByteArray := if i = f then ⟨#[]⟩ else cutB (pairB k i f) t
theorem codeB_size (k : ByteArray) (f i : Nat) (t : ByteArray) : (codeB k f i t).size ≤ 8 := by
  unfold codeB; split
  · exact Nat.zero_le _
  · rw [cutB_size]; omega
/-- The codes of a text from one replica. -/
noncomputable def vecB (k : ByteArray) (f : Nat) (t : ByteArray) (n : Nat) : List ByteArray := (List.range n).map fun i => codeB k f i t
theorem vecB_len (k : ByteArray) (f : Nat) (t : ByteArray) (n : Nat) : (vecB k f t n).length = n := by simp [vecB]
theorem vecB_get {k : ByteArray} {f : Nat} {t : ByteArray} {n i : Nat} (h : i < n) : (vecB k f t n)[i]'(by rw [vecB_len]; exact h) = codeB k f i t := by simp [vecB]
theorem vecB_succ (k : ByteArray) (f : Nat) (t : ByteArray) (n : Nat) : vecB k f t (n + 1) = vecB k f t n ++ [codeB k f n t] := by simp [vecB, List.range_succ]
/-- What Vector answers. -/
noncomputable def vecO (k : ByteArray) (f : Int) (t : ByteArray) : List ByteArray := if t.size ≤ 20000 ∧ Sec k ∧ Who f then vecB k f.toNat t 4 else []
/-- What VectorGood answers. -/
noncomputable def vgB (k : ByteArray) (f d : Int) (t : ByteArray) (M : List ByteArray) : Bool :=
  if h : (Sec k ∧ Who f ∧ Who d ∧ f ≠ d) ∧ t.size ≤ 20000 ∧ M.length = 4 then (codeB k f.toNat d.toNat t).toList == (M[d.toNat]'(by have := h.1.2.2.1; unfold Who at this; omega)).toList else false
theorem vgB_out {k : ByteArray} {f d : Int} {t : ByteArray} {M : List ByteArray} (h : ¬ ((Sec k ∧ Who f ∧ Who d ∧ f ≠ d) ∧ t.size ≤ 20000 ∧ M.length = 4)) : vgB k f d t M = false := dif_neg h
theorem vgB_in {k : ByteArray} {f d : Int} {t : ByteArray} {M : List ByteArray} (h : (Sec k ∧ Who f ∧ Who d ∧ f ≠ d) ∧ t.size ≤ 20000 ∧ M.length = 4) (hd : d.toNat < M.length) : vgB k f d t M = ((codeB k f.toNat d.toNat t).toList == M[d.toNat].toList) := dif_pos h
end Go.Proofs.YtodnmbppgjbpmaaDoor

namespace Go.Proofs.YtodnmbppgjbpmaaDoor
open Go.RowKit
set_option linter.unusedVariables false

def zeros32 (n : Nat) : List Value := List.replicate n (.int .u32 0)
theorem mk64u (w : World) : (Instr.makeSlice 110 (.int .i64 64) (.int .i64 64)).run Tryd.prog w = .ok (.slice (some ⟨w.heap.size, 0, none⟩) 64 64) (w.alloc (.cells (zeros32 64).toArray 111)) := by kernel_rfl
/-- A value that lies in new memory: a slice whose cells are these. -/
def NewRow (t : TypeId) (cs : List Value) (w : World) (e : Ending) (w' : World) : Prop :=
  ∃ g, w.heap.size ≤ g ∧ e = .returned (.slice (some ⟨g, 0, none⟩) cs.length cs.length) ∧ Blk w' g t cs ∧ Below w.heap.size w w'
set_option maxHeartbeats 1600000 in
theorem keys_any (w : World) : Calls Tryd.prog 93 #[] w (NewRow 111 (ints .u32 64 keyI) w) := by
  go_enter Tryd.func93, Tryd.ntmps93
  go_wp2
  go_ret
  exact ⟨w.heap.size, Nat.le_refl _, rfl, Blk.fresh w _ _, (Below.refl _ _).alloc (Nat.le_refl _) _⟩

theorem turn_still (x k : Int) (w : World) (h0 : 0 ≤ x) (h1 : x ≤ 4294967295) (k0 : 1 ≤ k) (k1 : k ≤ 31) :
    Calls Tryd.prog 92 #[.int .u32 x, .int .u64 k] w fun e w' => e = .returned (.int .u32 (rotr x k)) ∧ w' = w :=
  (turn_any x k w h0 h1 k0 k1).mono fun _ _ ⟨he, hw⟩ => ⟨he, hw.symm⟩
/-- A slice of eight integers that holds the state. -/
def St (w : World) (v : Value) (r : Reg) : Prop := ∃ g c, v = .slice (some ⟨g, 0, none⟩) 8 c ∧ g < w.heap.size ∧ 8 ≤ c ∧ ∀ i, i < 8 → w.cell? ⟨g, i, none⟩ = some (.int .i64 (r.at_ i))
theorem St.below {w w' : World} {v : Value} {r : Reg} (h : St w v r) (hb : Below w.heap.size w w') : St w' v r := by
  obtain ⟨g, c, e, hl, hc, hx⟩ := h
  exact ⟨g, c, e, Nat.lt_of_lt_of_le hl hb.size, hc, fun i hi => by rw [hb.cell (p := ⟨g, i, none⟩) hl]; exact hx i hi⟩

theorem infoI64 : (Tryd.prog.info? 2).map (fun i => (i.zero, i.size, i.bytes)) = some (some (.int .i64 0), 1, 8) := by kernel_rfl
theorem own_ne {w : World} {base : Nat} {e t : TypeId} {n g : Nat} {v : Value} {xs cs : List Value} (h : w.ownsRow base e 1 v n xs) (hg : Blk w g t cs) (hne : e ≠ t) : some g ≠ v.ownBlock := by
  rcases h.2 with ⟨rfl, _⟩ | ⟨g', cap, cur, rfl, _, hh, _⟩
  · simp [Value.ownBlock]
  · intro he
    have : g = g' := by simpa [Value.ownBlock] using he
    subst this
    unfold Blk at hg
    rw [hh] at hg
    injection hg with hg
    injection hg with _ ht
    exact hne ht
theorem Reg.cell8 (r : Reg) (k : Nat) (h : k < 8) : r.cells[k]? = some (.int .u32 (r.at_ k)) := by
  match k, h with
  | 0, _ | 1, _ | 2, _ | 3, _ | 4, _ | 5, _ | 6, _ | 7, _ => rfl
theorem addR_at (r q : Reg) (k : Nat) (h : k < 8) : (addR r q).at_ k = (r.at_ k + q.at_ k) % 4294967296 := by
  match k, h with
  | 0, _ | 1, _ | 2, _ | 3, _ | 4, _ | 5, _ | 6, _ | 7, _ => rfl
def Reg.row (r : Reg) (k : Nat) : List Value := (List.range k).map fun i => Value.int .i64 (r.at_ i)
theorem Reg.row_len (r : Reg) (k : Nat) : (r.row k).length = k := by simp [Reg.row]
theorem Reg.row_succ (r : Reg) (k : Nat) : r.row (k + 1) = r.row k ++ [.int .i64 (r.at_ k)] := by simp [Reg.row, List.range_succ]
theorem Reg.row_get (r : Reg) (k i : Nat) (h : i < k) : (r.row k)[i]? = some (.int .i64 (r.at_ i)) := by simp [Reg.row, h]
theorem st_of_own {w : World} {base : Nat} {v : Value} {r : Reg} (h : w.ownsRow base 2 1 v 8 (r.row 8)) : St w v r := by
  rcases h.2 with ⟨rfl, h0⟩ | ⟨g, cap, cur, rfl, hb, hh, hc, hm, hs, ht⟩
  · cases h0
  · have hbl : Blk w g 2 cur.toList := by unfold Blk; simpa using hh
    exact ⟨g, cap, rfl, hbl.lt, hc, fun i hi => by
      have := World.ownsRow.cellAt (w := w) (g := g) (cap := cap) h i (by omega)
      rw [this]; exact Reg.row_get r 8 i hi⟩

set_option maxHeartbeats 4000000 in
set_option maxRecDepth 1000000 in
theorem block_any (s : ByteArray) (v : Value) (r : Reg) (w : World) (hs : s.size = 64) (hv : St w v r) (hr : r.Bd) :
    Calls Tryd.prog 73 #[v, .string s] w fun e w' => ∃ v', e = .returned v' ∧ St w' v' (mixR s r) ∧ Below w.heap.size w w' := by
  obtain ⟨gs, cap, rfl, hgs, hcap, hcs⟩ := hv
  obtain ⟨ra, rb, rc, rd, re, rf, rg, rh⟩ := r
  have HR := Lib.hid hr
  clear hr
  have HCS := Lib.hid hcs
  clear hcs
  have HS := Lib.hid hs
  have hs0 : s.size ≤ 64 := by omega
  have hs1 : 64 ≤ s.size := by omega
  clear hs
  have hmk := mk64u
  have hr0 : Hid (zeros32 64 = ints .u32 64 (upto 0 (schedW s))) := upto_none.symm
  go_enter Tryd.func73, Tryd.ntmps73
  go_wp2
  go_loopw [6] (fun i wr => ∃ k : Nat, k ≤ 16 ∧ i = .int .i64 k ∧ Blk wr w.heap.size 111 (ints .u32 64 (upto k (schedW s))) ∧ Below w.heap.size w wr) (fun i _ => 16 - (intOf i).toNat)
  case atStart => exact ⟨0, by omega, rfl, by rw [← hr0.out]; exact Blk.fresh w _ _, (Below.refl _ _).alloc (Nat.le_refl _) _⟩
  case round =>
    obtain ⟨k, hk, rfl, hW, hb⟩ := hrel
    by_cases hlt : k < 16
    · have c1 := hW.cell (ints_get (f := upto k (schedW s)) (i := k) (n := 64) (by omega))
      have f1 := hW.froz k
      obtain ⟨a, HA⟩ : ∃ a, Hid (4 * k = a) := ⟨_, rfl⟩
      have hA := HA.out
      have i0 : a < s.size := by omega
      have i1 : a + 1 < s.size := by omega
      have i2 : a + 2 < s.size := by omega
      have i3 : a + 3 < s.size := by omega
      have HW : Hid (word s a = bits .or .u32 (bits .or .u32 (bits .or .u32 ((s[a].toNat : Int) % 4294967296 * 16777216 % 4294967296) ((s[a + 1].toNat : Int) % 4294967296 * 65536 % 4294967296)) ((s[a + 2].toNat : Int) % 4294967296 * 256 % 4294967296)) ((s[a + 3].toNat : Int) % 4294967296)) := by
        unfold Hid word; rw [byteI_eq i0, byteI_eq i1, byteI_eq i2, byteI_eq i3]
      have j1 : 0 ≤ (a : Int) + 1 := by omega
      have j2 : 0 ≤ (a : Int) + 2 := by omega
      have j3 : 0 ≤ (a : Int) + 3 := by omega
      have k1 : (a : Int) + 1 < (s.size : Int) := by omega
      have k2 : (a : Int) + 2 < (s.size : Int) := by omega
      have k3 : (a : Int) + 3 < (s.size : Int) := by omega
      have t1 : ((a : Int) + 1).toNat = a + 1 := by omega
      have t2 : ((a : Int) + 2).toNat = a + 2 := by omega
      have t3 : ((a : Int) + 3).toNat = a + 3 := by omega
      have hlt' : (k : Int) < 64 := by omega
      have e0 : IntKind.i64.wrap (4 * (k : Int)) = (a : Int) := by rw [IntWalk.i64_in _ (by omega)]; omega
      have e1 : IntKind.i64.wrap ((a : Int) + 1) = (a : Int) + 1 := IntWalk.i64_in _ (by omega)
      have e2 : IntKind.i64.wrap ((a : Int) + 2) = (a : Int) + 2 := IntWalk.i64_in _ (by omega)
      have e3 : IntKind.i64.wrap ((a : Int) + 3) = (a : Int) + 3 := IntWalk.i64_in _ (by omega)
      clear hA
      go_wp2
      refine wp_region_still_tail 32 (by kernel_rfl) (by kernel_rfl) ?_
      simp only [List.take_succ_cons, List.take_zero, List.drop_succ_cons, List.drop_zero]
      change wpStill _ _ wr.drew (fun a' => wpList _ _ _ _ a' wr.drew) _ _
      repeat still_step
      refine wpStill_nil ?_
      go_wp2
      have hp := hW.drew.put k (.int .u32 (word s a))
      rw [upto_set (by omega) (by rw [schedW_lo hlt, HA.out]), HW.out] at hp
      exact ⟨⟨k + 1, by omega, by go_num, hp, (below_drew hb).setCell (Nat.le_refl _) _⟩, by simp [intOf]; omega⟩
    · obtain rfl : k = 16 := by omega
      clear hlt hk
      simp only [show ((16 : Nat) : Int) = 16 from rfl]
      go_wp2
      go_loopw [7, 8, 9] (fun i _ _ wq => ∃ k : Nat, 16 ≤ k ∧ k ≤ 64 ∧ i = .int .i64 k ∧ Blk wq w.heap.size 111 (ints .u32 64 (upto k (schedW s))) ∧ Below w.heap.size w wq) (fun i _ _ _ => 64 - (intOf i).toNat)
      case atStart => exact ⟨16, by omega, by omega, rfl, hW, hb⟩
      case round =>
        clear hW hb
        obtain ⟨k, hk0, hk, rfl, hW, hb⟩ := hrel
        by_cases hlt : k < 64
        · obtain ⟨a, HA⟩ : ∃ a, Hid (a + 16 = k) := ⟨k - 16, by unfold Hid; omega⟩
          have hA := HA.out
          have q1 : 0 ≤ schedW s (a + 1) ∧ schedW s (a + 1) ≤ 4294967295 := schedW_bd _ _
          have q2 : 0 ≤ schedW s (a + 14) ∧ schedW s (a + 14) ≤ 4294967295 := schedW_bd _ _
          obtain ⟨q1a, q1b⟩ := q1
          obtain ⟨q2a, q2b⟩ := q2
          have HK : Hid (schedW s k = wsum (schedW s a) (schedW s (a + 1)) (schedW s (a + 9)) (schedW s (a + 14))) := by
            unfold Hid; rw [schedW_hi (by omega), ← hA]; rfl
          have c0 := hW.cell (upto_get (f := schedW s) (i := a) hk (by omega))
          have c1 := hW.cell (upto_get (f := schedW s) (i := a + 1) hk (by omega))
          have c9 := hW.cell (upto_get (f := schedW s) (i := a + 9) hk (by omega))
          have c14 := hW.cell (upto_get (f := schedW s) (i := a + 14) hk (by omega))
          have ck := hW.cell (ints_get (f := upto k (schedW s)) (i := k) (n := 64) hlt)
          have fk := hW.froz k
          have hlt' : (k : Int) < 64 := by omega
          have b1 : (0 : Int) ≤ ((a + 1 : Nat) : Int) ∧ ((a + 1 : Nat) : Int) < 64 := by omega
          have b14 : (0 : Int) ≤ ((a + 14 : Nat) : Int) ∧ ((a + 14 : Nat) : Int) < 64 := by omega
          have e15 : (k : Int) - 15 = ((a + 1 : Nat) : Int) := by omega
          have e2 : (k : Int) - 2 = ((a + 14 : Nat) : Int) := by omega
          have w16 : IntKind.i64.wrap ((k : Int) - 16) = ((a : Nat) : Int) := by rw [IntWalk.i64_in _ (by omega)]; omega
          have w7 : IntKind.i64.wrap ((k : Int) - 7) = ((a + 9 : Nat) : Int) := by rw [IntWalk.i64_in _ (by omega)]; omega
          have b0 : (0 : Int) ≤ ((a : Nat) : Int) ∧ ((a : Nat) : Int) < 64 := by omega
          have b9 : (0 : Int) ≤ (a : Int) + 9 := by omega
          have b9' : (a : Int) + 9 < 64 := by omega
          have b9t : ((a : Int) + 9).toNat = a + 9 := by omega
          clear hA
          go_wp2
          refine wp_region_still_tail 32 (by kernel_rfl) (by kernel_rfl) ?_
          simp only [List.take_succ_cons, List.take_zero, List.drop_succ_cons, List.drop_zero]
          change wpStill _ _ wr.drew (fun a' => wpList _ _ _ _ a' wr.drew) _ _
          repeat (first | still_step | still_call (turn_still _ _ _ (by omega) (by omega) (by omega) (by omega)))
          refine wpStill_nil ?_
          go_wp2
          have hp := (hW.put k (.int .u32 (schedW s k))).drew
          rw [upto_set hlt rfl, HK.out] at hp
          exact ⟨⟨k + 1, by omega, by omega, by go_num, hp, below_drew (hb.setCell (Nat.le_refl _) _)⟩, by simp [intOf]; omega⟩
        · obtain rfl : k = 64 := by omega
          clear hlt hk hk0
          rw [upto_all] at hW
          simp only [show ((64 : Nat) : Int) = 64 from rfl]
          obtain ⟨⟨a0, a1⟩, ⟨b0, b1⟩, ⟨cc0, cc1⟩, ⟨d0, d1⟩, ⟨e0, e1⟩, ⟨f0, f1⟩, ⟨g0, g1⟩, ⟨h0, hh1⟩⟩ := HR.out
          dsimp only at *
          have hcell : ∀ i, i < 8 → wr.cell? ⟨gs, i, none⟩ = some (.int .i64 ((⟨ra, rb, rc, rd, re, rf, rg, rh⟩ : Reg).at_ i)) := fun i hi => by
            rw [hb.cell (p := ⟨gs, i, none⟩) hgs]; exact HCS.out i hi
          have x0 : wr.cell? ⟨gs, 0, none⟩ = some (.int .i64 ra) := hcell 0 (by omega)
          have x1 : wr.cell? ⟨gs, 1, none⟩ = some (.int .i64 rb) := hcell 1 (by omega)
          have x2 : wr.cell? ⟨gs, 2, none⟩ = some (.int .i64 rc) := hcell 2 (by omega)
          have x3 : wr.cell? ⟨gs, 3, none⟩ = some (.int .i64 rd) := hcell 3 (by omega)
          have x4 : wr.cell? ⟨gs, 4, none⟩ = some (.int .i64 re) := hcell 4 (by omega)
          have x5 : wr.cell? ⟨gs, 5, none⟩ = some (.int .i64 rf) := hcell 5 (by omega)
          have x6 : wr.cell? ⟨gs, 6, none⟩ = some (.int .i64 rg) := hcell 6 (by omega)
          have x7 : wr.cell? ⟨gs, 7, none⟩ = some (.int .i64 rh) := hcell 7 (by omega)
          have HC := Lib.hid hcell
          clear hcell
          have y0 : IntKind.u32.wrap ra = ra := by rw [IntKind.wrap_u32]; omega
          have y1 : IntKind.u32.wrap rb = rb := by rw [IntKind.wrap_u32]; omega
          have y2 : IntKind.u32.wrap rc = rc := by rw [IntKind.wrap_u32]; omega
          have y3 : IntKind.u32.wrap rd = rd := by rw [IntKind.wrap_u32]; omega
          have y4 : IntKind.u32.wrap re = re := by rw [IntKind.wrap_u32]; omega
          have y5 : IntKind.u32.wrap rf = rf := by rw [IntKind.wrap_u32]; omega
          have y6 : IntKind.u32.wrap rg = rg := by rw [IntKind.wrap_u32]; omega
          have y7 : IntKind.u32.wrap rh = rh := by rw [IntKind.wrap_u32]; omega
          go_wp2
          go_quiet (fail)
          generalize nq = nqa
          go_wp2
          go_quiet (fail)
          clear x0 x1 x2 x3 x4 x5 x6 x7 y0 y1 y2 y3 y4 y5 y6 y7
          go_wp2_with (go_at_call 93; refine (keys_any _).mono ?_; rintro e w2 ⟨gk, hgk, rfl, hKb, hbk⟩; simp only [ints_len])
          have hW2 := (hW.drewN (nqa + nq)).below hbk (hW.drewN (nqa + nq)).lt
          have hlw : gs < (wr.drewN (nqa + nq)).heap.size := Nat.lt_of_lt_of_le hgs hb.size
          have HC2 : Hid (∀ i, i < 8 → w2.cell? ⟨gs, i, none⟩ = some (.int .i64 ((⟨ra, rb, rc, rd, re, rf, rg, rh⟩ : Reg).at_ i))) := fun i hi => by
            rw [hbk.cell (p := ⟨gs, i, none⟩) hlw]; exact HC.out i hi
          have hb2 : Below w.heap.size w w2 := (below_drewN hb _).trans (hbk.mono hb.size)
          clear HC hbk hgk hlw hW hb
          go_loopw [10, 11, 12, 13, 14, 15, 16, 17, 19, 20, 21] (fun sa sb sc sd se sf sg sh i _ _ wq => ∃ (k : Nat) (q : Reg), k ≤ 64 ∧ Hid (q = rounds s ⟨ra, rb, rc, rd, re, rf, rg, rh⟩ k) ∧ i = .int .i64 k ∧ sa = .int .u32 q.a ∧ sb = .int .u32 q.b ∧ sc = .int .u32 q.c ∧ sd = .int .u32 q.d ∧ se = .int .u32 q.e ∧ sf = .int .u32 q.f ∧ sg = .int .u32 q.g ∧ sh = .int .u32 q.h ∧
              Blk wq w.heap.size 111 (ints .u32 64 (schedW s)) ∧ Blk wq gk 111 (ints .u32 64 keyI) ∧ Hid (∀ i, i < 8 → wq.cell? ⟨gs, i, none⟩ = some (.int .i64 ((⟨ra, rb, rc, rd, re, rf, rg, rh⟩ : Reg).at_ i))) ∧ Below w.heap.size w wq)
            (fun _ _ _ _ _ _ _ _ i _ _ _ => 64 - (intOf i).toNat)
          case atStart => exact ⟨0, _, by omega, rfl, rfl, rfl, rfl, rfl, rfl, rfl, rfl, rfl, rfl, hW2, hKb, HC2, hb2⟩
          case round =>
            clear hW2 hKb HC2 hb2
            obtain ⟨k, q, hk, HQ, rfl, rfl, rfl, rfl, rfl, rfl, rfl, rfl, rfl, hW, hKb, HC, hb⟩ := hrel
            have hq : q.Bd := by rw [HQ.out]; exact rounds_bd HR.out k
            obtain ⟨qa, qb, qc, qd, qe, qf, qg, qh⟩ := q
            obtain ⟨⟨a0, a1⟩, ⟨b0, b1⟩, ⟨cc0, cc1⟩, ⟨d0, d1⟩, ⟨e0, e1⟩, ⟨f0, f1⟩, ⟨g0, g1⟩, ⟨h0, hh1⟩⟩ := hq
            dsimp only at *
            by_cases hlt : k < 64
            · have x1 := hW.cell (ints_get (f := schedW s) (i := k) hlt)
              have x2 := hKb.cell (ints_get (f := keyI) (i := k) hlt)
              have hlt' : (k : Int) < 64 := by omega
              go_wp2
              go_quiet ((go_at_call 92; exact quiet_eq (turn_any _ _ _ (by omega) (by omega) (by omega) (by omega))))
              go_wp2_with (go_at_call 92; refine (turn_any _ _ _ (by omega) (by omega) (by omega) (by omega)).mono ?_; rintro e w' ⟨rfl, rfl⟩)
              exact ⟨⟨k + 1, rnd ⟨qa, qb, qc, qd, qe, qf, qg, qh⟩ (keyI k) (schedW s k), by omega, by unfold Hid; rw [HQ.out]; rfl, by go_num, rfl, rfl, rfl, rfl, rfl, rfl, rfl, rfl, hW.drewN _, hKb.drewN _, HC.out, below_drewN hb _⟩, by simp [intOf]; omega⟩
            · obtain rfl : k = 64 := by omega
              clear hlt hk
              simp only [show ((64 : Nat) : Int) = 64 from rfl]
              obtain ⟨gv, HGV⟩ : ∃ gv, Hid (wr.heap.size = gv) := ⟨_, rfl⟩
              have hv0 : Blk ((wr.alloc (.cells (⟨qa, qb, qc, qd, qe, qf, qg, qh⟩ : Reg).cells.toArray 111)).alloc (.cells #[] 2)) wr.heap.size 111 (⟨qa, qb, qc, qd, qe, qf, qg, qh⟩ : Reg).cells := (Blk.fresh wr _ _).alloc _
              have ho0 : ((wr.alloc (.cells (⟨qa, qb, qc, qd, qe, qf, qg, qh⟩ : Reg).cells.toArray 111)).alloc (.cells #[] 2)).ownsRow w.heap.size 2 1 (.slice (some ⟨wr.heap.size + 1, 0, none⟩) 0 0) 0 [] := by
               have := World.ownsRow_lit (base := w.heap.size) (e := 2) (size := 1) (wr.alloc (.cells (⟨qa, qb, qc, qd, qe, qf, qg, qh⟩ : Reg).cells.toArray 111)) #[] 0 (by have := hb.size; simp; omega) (by simp) (by simp)
               simpa using this
              have hb0 : Below w.heap.size w ((wr.alloc (.cells (⟨qa, qb, qc, qd, qe, qf, qg, qh⟩ : Reg).cells.toArray 111)).alloc (.cells #[] 2)) := (hb.alloc hb.size _).alloc (by have := hb.size; simp; omega) _
              have hC0 : Hid (∀ i, i < 8 → ((wr.alloc (.cells (⟨qa, qb, qc, qd, qe, qf, qg, qh⟩ : Reg).cells.toArray 111)).alloc (.cells #[] 2)).cell? ⟨gs, i, none⟩ = some (.int .i64 ((⟨ra, rb, rc, rd, re, rf, rg, rh⟩ : Reg).at_ i))) := fun i hi => by
                rw [hb0.cell (p := ⟨gs, i, none⟩) hgs]; exact HCS.out i hi
              have HV0 := Lib.hid hv0
              have HO0 := Lib.hid ho0
              have HB0 := Lib.hid hb0
              clear hv0 ho0 hb0 hW hKb HC
              rw [HGV.out] at HO0 HV0
              go_wp2
              have egv : wr.heap.size = gv := HGV.out
              simp only [egv]
              clear egv
              obtain ⟨ie, hie, iz0, iz1, iz2⟩ := info_parts infoI64
              go_loopw [23, 24] (fun u i wq => ∃ (k : Nat) (v : Value), k ≤ 8 ∧ u = v ∧ i = .int .i64 k ∧ wq.ownsRow w.heap.size 2 1 v k ((addR ⟨ra, rb, rc, rd, re, rf, rg, rh⟩ ⟨qa, qb, qc, qd, qe, qf, qg, qh⟩).row k) ∧ Blk wq gv 111 (⟨qa, qb, qc, qd, qe, qf, qg, qh⟩ : Reg).cells ∧ Below w.heap.size w wq) (fun _ i _ => 8 - (intOf i).toNat)
              case atStart => exact ⟨0, _, by omega, rfl, rfl, HO0.out, HV0.out, HB0.out⟩
              case round =>
                obtain ⟨k, v, hk, rfl, rfl, hown, hV, hbq⟩ := hrel
                by_cases hlt : k < 8
                · have x1 := hbq.cell (p := ⟨gs, k, none⟩) hgs
                  rw [HCS.out k hlt] at x1
                  have x2 := hV.cell (Reg.cell8 _ k hlt)
                  have hq8 : (⟨qa, qb, qc, qd, qe, qf, qg, qh⟩ : Reg).Bd := by rw [HQ.out]; exact rounds_bd HR.out 64
                  obtain ⟨r0, r1⟩ := Reg.at_bd HR.out k
                  obtain ⟨q0, q1⟩ := Reg.at_bd hq8 k
                  have HAt := Lib.hid (addR_at ⟨ra, rb, rc, rd, re, rf, rg, rh⟩ ⟨qa, qb, qc, qd, qe, qf, qg, qh⟩ k hlt)
                  generalize (⟨ra, rb, rc, rd, re, rf, rg, rh⟩ : Reg).at_ k = rk at x1 r0 r1 HAt
                  generalize (⟨qa, qb, qc, qd, qe, qf, qg, qh⟩ : Reg).at_ k = qk at x2 q0 q1 HAt
                  have y1 : IntKind.u32.wrap rk = rk := by rw [IntKind.wrap_u32]; omega
                  have y2 : IntKind.i64.wrap ((rk + qk) % 4294967296) = (rk + qk) % 4294967296 := IntWalk.i64_in _ (by omega)
                  have y3 : IntKind.u32.wrap (rk + qk) = (rk + qk) % 4294967296 := IntKind.wrap_u32 _
                  have hlt' : (k : Int) < 8 := by omega
                  have hsz := hbq.size
                  have hk8 : (k : Int) < 8 := by omega
                  clear a0 a1 b0 b1 cc0 cc1 d0 d1 e0 e1 f0 f1 g0 g1 h0 hh1
                  go_wp2
                  have ne1 : u23.ownBlock ≠ some gs := fun e => by have := (hown.lt gs e).1; omega
                  have ne2 : u23.ownBlock ≠ some _ := Ne.symm (own_ne hown hV (by decide))
                  have lv := hV.lt
                  go_region_held3 (fun w' => w'.cell? ⟨gs, k, none⟩ = some (.int .i64 rk) ∧ w'.cell? ⟨gv, k, none⟩ = some (.int .u32 qk))
                    (first
                      | go_keep
                      | (go_split_ands
                         refine ⟨?_, ?_⟩
                         · (rw [hgrow.cell_far _ (by simp; omega) (Ne.symm ne1)]; assumption)
                         · (rw [hgrow.cell_far _ (by simp; omega) (Ne.symm ne2)]; assumption)))
                    ((refine step_append_lies _ (by rfl) _ _ _ (by rfl) w.heap.size 2 ie _ 1 8 Tryd.underlying35 hie iz0 iz1 iz2 rfl (by omega) u23 k _ (by rfl) ((hown.alloc _).drew)
                        ⟨wr.heap.size, 0, none⟩ 1 1 [.int .i64 ((rk + qk) % 4294967296)] (by rfl) (by rfl) (World.news_of_block (cs := #[.int .i64 ((rk + qk) % 4294967296)]) (t := 2) (fr := (0, 0)) (heap_alloc_new wr _)) (by simp [Value.oneCell'])
                        (by omega) (by unfold maxLen; omega) (by omega) (by simp; omega) (wr.heap.size + 1) (by simp) ?_; intro gg cap' w1 hown1 hgrow hat hlt1))
                  go_wp2
                  have hV1 := ((hV.alloc (.cells #[.int .i64 ((rk + qk) % 4294967296)] 2)).drew).grown hgrow (Ne.symm ne2)
                  have hB1 := (below_drew (hbq.alloc hsz (.cells #[.int .i64 ((rk + qk) % 4294967296)] 2))).grown hgrow (by simp; omega) (fun k e => (hown.lt k e).1)
                  have hr1 := Reg.row_succ (addR ⟨ra, rb, rc, rd, re, rf, rg, rh⟩ ⟨qa, qb, qc, qd, qe, qf, qg, qh⟩) k
                  rw [HAt.out] at hr1
                  exact ⟨⟨k + 1, _, by omega, rfl, by go_num, by rw [hr1]; exact hown1, hV1, hB1⟩, by simp [intOf]; omega⟩
                · obtain rfl : k = 8 := by omega
                  go_wp2
                  go_ret
                  refine ⟨_, rfl, ?_, hbq⟩
                  have := st_of_own hown
                  rw [HQ.out] at this
                  exact this
end Go.Proofs.YtodnmbppgjbpmaaDoor

namespace Go.Proofs.YtodnmbppgjbpmaaDoor
open Go.RowKit
set_option linter.unusedVariables false

/-- The slice v, of the cells xs, lies at the head of a block from base on; none of its cells, nor of its spare ones, is frozen. -/
def OwnB (w : World) (base : Nat) (v : Value) (xs : List Value) : Prop :=
  ∃ g cap, v = .slice (some ⟨g, 0, none⟩) xs.length cap ∧ base ≤ g ∧ g < w.heap.size ∧ xs.length ≤ cap ∧ (∀ j u, xs[j]? = some u → w.cell? ⟨g, j, none⟩ = some u) ∧
    (∀ j, j < cap → (w.cell? ⟨g, j, none⟩).isSome = true ∧ w.frozen? ⟨g, j, none⟩ = false)

theorem OwnB.of_block {w w' : World} {base : Nat} {v : Value} {xs : List Value} (h : OwnB w base v xs) (hb : ∀ g, base ≤ g → g < w.heap.size → w'.heap[g]? = w.heap[g]?) : OwnB w' base v xs := by
  obtain ⟨g, cap, rfl, h1, h2, h3, h4, h5⟩ := h
  have e := hb g h1 h2
  refine ⟨g, cap, rfl, h1, ?_, h3, fun j u hu => ?_, fun j hj => ⟨?_, ?_⟩⟩
  · rcases Nat.lt_or_ge g w'.heap.size with hl | hl
    · exact hl
    · rw [Array.getElem?_eq_none hl, Array.getElem?_eq_getElem h2] at e; cases e
  · rw [World.cell?_of_block (a := ⟨g, j, none⟩) e]; exact h4 j u hu
  · rw [World.cell?_of_block (a := ⟨g, j, none⟩) e]; exact (h5 j hj).1
  · rw [World.frozen?_of_block (a := ⟨g, j, none⟩) e]; exact (h5 j hj).2
theorem OwnB.below {w w' : World} {base : Nat} {v : Value} {xs : List Value} (h : OwnB w base v xs) (hb : Below w.heap.size w w') : OwnB w' base v xs := h.of_block fun g _ hg => hb.block g hg
theorem OwnB.alloc {w : World} {base : Nat} {v : Value} {xs : List Value} (h : OwnB w base v xs) (o : Obj) : OwnB (w.alloc o) base v xs := h.of_block fun g _ hg => Below.heap_alloc w o g hg
theorem OwnB.drewN {w : World} {base : Nat} {v : Value} {xs : List Value} (h : OwnB w base v xs) (n : Nat) : OwnB (w.drewN n) base v xs := h
theorem OwnB.lt {w : World} {base : Nat} {v : Value} {xs : List Value} (h : OwnB w base v xs) : ∀ k, v.ownBlock = some k → base ≤ k ∧ k < w.heap.size := by
  obtain ⟨g, cap, rfl, h1, h2, _⟩ := h
  intro k hk
  simp [Value.ownBlock] at hk
  subst hk; exact ⟨h1, h2⟩
theorem OwnB.of_own {w : World} {base n : Nat} {t : TypeId} {v : Value} {xs : List Value} (h : w.ownsRow base t 1 v n xs) (hn : 0 < n) : OwnB w base v xs := by
  rcases h.2 with ⟨_, h0⟩ | ⟨g, cap, cur, rfl, hb, hh, hc, hm, hs, ht⟩
  · omega
  · have hl : xs.length = n := by have := h.1; omega
    have hbl : Blk w g t cur.toList := by unfold Blk; simpa using hh
    refine ⟨g, cap, by rw [hl], hb, hbl.lt, by omega, fun j u hu => ?_, fun j hj => ⟨?_, hbl.froz j⟩⟩
    · have hj : j < n := by rw [← hl]; exact (List.getElem?_eq_some_iff.1 hu).1
      rw [← hu]
      exact World.ownsRow.cellAt (w := w) (g := g) (cap := cap) h j (by omega)
    · have : j < cur.toList.length := by simp; omega
      rw [hbl.cell (List.getElem?_eq_getElem this)]; rfl

/-- The conversion of a string to bytes. -/
theorem conv_own (w : World) (s : ByteArray) (base : Nat) (hb : base ≤ w.heap.size) :
    ∃ w', (convert 9 22 (.string s)).run Tryd.prog w = .ok (.slice (some ⟨w.heap.size, 0, none⟩) s.size (grownCap w s.size 0 5)) w' ∧
      OwnB w' base (.slice (some ⟨w.heap.size, 0, none⟩) s.size (grownCap w s.size 0 5)) (Lib.byteCells s.data.toList) ∧ Below w.heap.size w w' := by
  refine ⟨_, Lib.run_convert_string_bytes w 9 22 5 s Tryd.underlying9 Tryd.underlying22 Tryd.underlying5, ?_, ?_⟩
  · have hl : (Lib.byteCells s.data.toList).length = s.size := by rw [Lib.byteCells_length, ← Lib.size_eq]
    have hge := grownCap_ge w s.size 0 5
    have hsz : (Lib.bytesCells w 5 s).size = grownCap w s.size 0 5 := by simp [Lib.bytesCells]; omega
    refine ⟨w.heap.size, _, by rw [hl], hb, by rw [Lib.bytesWorld_size]; omega, by rw [hl]; exact hge, fun j u hu => ?_, fun j hj => ⟨?_, ?_⟩⟩
    · have hj : j < s.size := by rw [← hl]; exact (List.getElem?_eq_some_iff.1 hu).1
      rw [Lib.bytesWorld_cell w _ s j hj, ← hu]
      have hj' : j < s.data.size := hj
      have e1 : s.data[j]? = some s.data[j] := Array.getElem?_eq_getElem hj'
      simp [Lib.byteCells, List.getD, e1]
    · rw [cell_of_row _ _ j _ _ _ (Lib.bytesWorld_at_new w 5 s), Array.getElem?_eq_getElem (by rw [hsz]; exact hj)]; rfl
    · simp only [World.frozen?, Lib.bytesWorld_at_new]
      simp; intro h; omega
  · exact ⟨rfl, rfl, rfl, by rw [Lib.bytesWorld_size]; omega, fun i hi => Lib.bytesWorld_at_old w _ s i hi⟩

theorem wpList_conv_bytes {ops : Array Oper} {rest : List Oper} {o : Oper} {a : Act} {w : World} {Q : Exit → Act → World → Prop} (hgd : o.guard = none) (x : Operand) (ho : o.op = .convert 9 22 x)
    (s : ByteArray) (base : Nat) (hx : a.eval x = .string s) (hb : base ≤ w.heap.size)
    (h : ∀ v w', OwnB w' base v (Lib.byteCells s.data.toList) → Below w.heap.size w w' → wpList Tryd.prog ops Q rest (a.put o.dst v) w') : wpList Tryd.prog ops Q (o :: rest) a w := by
  refine wpList_plain hgd fun K hK => ?_
  obtain ⟨w', hrun, h1, h2⟩ := conv_own w s base hb
  unfold Oper.wp execOp
  simp only [ho, hx, Sem.run_bind, hrun, Result.andThen_ok, Sem.run_pure]
  exact hK _ _ (h _ w' h1 h2)

set_option maxRecDepth 1000000 in
/-- One element appended. -/
theorem run_append_B (w : World) (base : Nat) (t ty e : TypeId) (i : TypeInfo) (z : Value) (bytes : Nat) (ht : Tryd.prog.underlying t = some (.slice e)) (hi : Tryd.prog.info? e = some i) (hz : i.zero = some z)
    (hsize : i.size = 1) (hby : i.bytes = bytes) (hzs : z.cells.size = 1) (v : Value) (xs : List Value) (h : OwnB w base v xs) (ad : Addr) (c : Nat) (x : Value) (hx : w.cell? ad = some x) (h1 : x.oneCell' = true)
    (h63 : xs.length + 1 ≤ maxLen) (hbytes : (xs.length + 1) * bytes ≤ 140737488355328) (hbase : base ≤ w.heap.size) :
    ∃ v' w', (Builtin.append_ #[t, t] ty #[v, .slice (some ad) 1 c]).run Tryd.prog w = .ok v' w' ∧ OwnB w' base v' (xs ++ [x]) ∧ w.grownBy w' v.ownBlock := by
  obtain ⟨g, cap, rfl, g1, g2, g3, g4, g5⟩ := h
  have hnews : ∀ j u, [x][j]? = some u → w.cell? (ad.add j) = some u := fun j u hu => by
    match j, hu with
    | 0, hu => simp at hu; subst hu; simpa [Addr.add] using hx
  have hone : ∀ u ∈ [x], u.oneCell' = true := fun u hu => by simp at hu; subst hu; exact h1
  by_cases hroom : xs.length + 1 ≤ cap
  · have hr := run_append_room_cells (P := Tryd.prog) w t ty e i ht hi g 0 xs.length cap ad 1 c [x] (by rw [hsize]; rfl) hnews hone hroom
      (fun j hj => by simp at hj; subst hj; simpa [hsize] using (g5 xs.length (by omega)).1) (fun j hj => by simp at hj; subst hj; simpa [hsize] using (g5 xs.length (by omega)).2)
    have e0 : 0 + xs.length * i.size = xs.length := by rw [hsize]; omega
    rw [e0] at hr
    have hset : w.setCells g xs.length [x] = w.setCell ⟨g, xs.length, none⟩ x := rfl
    rw [hset] at hr
    refine ⟨_, _, hr, ⟨g, cap, by simp, g1, by simpa [World.setCell] using g2, by simpa using hroom, fun j u hu => ?_, fun j hj => ?_⟩, ?_⟩
    · by_cases e : j = xs.length
      · subst e
        have hu' : u = x := by simpa using hu.symm
        subst hu'
        obtain ⟨y, hy⟩ := Option.isSome_iff_exists.1 (g5 xs.length (by omega)).1
        exact World.cell?_setCell_same w _ u hy
      · have hj : j < xs.length := by
          have := (List.getElem?_eq_some_iff.1 hu).1
          simp at this; omega
        rw [World.cell?_setCell_other w _ _ x (fun e' => e (by injection e' with _ e2 _; exact e2.symm))]
        exact g4 j u (by rw [← hu, List.getElem?_append_left hj])
    · obtain ⟨hs, hf⟩ := g5 j hj
      refine ⟨?_, by simpa using hf⟩
      obtain ⟨y, hy⟩ := Option.isSome_iff_exists.1 hs
      obtain ⟨y', hy'⟩ := cell?_setCell_some (p := ⟨g, xs.length, none⟩) (x := x) hy
      rw [hy']; rfl
    · exact ⟨rfl, rfl, rfl, by simp [World.setCell], fun k hk hne => Below.heap_setCell w _ x k (fun e => hne (by rw [e]; rfl))⟩
  · have holds : ∀ j u, xs[j]? = some u → w.cell? ((⟨g, 0, none⟩ : Addr).add j) = some u := fun j u hu => by
      have hadd : (⟨g, 0, none⟩ : Addr).add j = ⟨g, j, none⟩ := by unfold Addr.add; split <;> simp_all
      rw [hadd]; exact g4 j u hu
    obtain ⟨v', w', hr, ho, hg⟩ := run_append_arg_grows (P := Tryd.prog) w t ty e i z 1 bytes ht hi hz hsize hby hzs (by omega) ⟨g, 0, none⟩ xs.length cap xs (by omega) holds ad 1 c [x] rfl hnews (by omega) h63 hbytes
    refine ⟨v', w', hr, ?_, ⟨hg.os, hg.tape, hg.output, hg.size, fun k hk _ => hg.block k hk (by simp)⟩⟩
    have := OwnB.of_own ho (by omega)
    obtain ⟨g', cap', e', a1, a2, a3, a4, a5⟩ := this
    exact ⟨g', cap', e', by omega, a2, a3, a4, a5⟩
theorem wpList_append_B {ops : Array Oper} {rest : List Oper} {o : Oper} {a : Act} {w : World} {Q : Exit → Act → World → Prop} (hgd : o.guard = none) (s x : Operand) (t : TypeId)
    (ho : o.op = .call { callee := .builtin .append, args := #[s, x], argTypes := #[t, t] }) (base : Nat) (e : TypeId) (i : TypeInfo) (z : Value) (bytes : Nat) (ht : Tryd.prog.underlying t = some (.slice e)) (hi : Tryd.prog.info? e = some i) (hz : i.zero = some z)
    (hsize : i.size = 1) (hby : i.bytes = bytes) (hzs : z.cells.size = 1) (v : Value) (xs : List Value) (hs : a.eval s = v) (h : OwnB w base v xs) (ad : Addr) (c : Nat) (y : Value) (hx : a.eval x = .slice (some ad) 1 c) (hy : w.cell? ad = some y) (h1 : y.oneCell' = true)
    (h63 : xs.length + 1 ≤ maxLen) (hbytes : (xs.length + 1) * bytes ≤ 140737488355328) (hbase : base ≤ w.heap.size)
    (hK : ∀ v' w', OwnB w' base v' (xs ++ [y]) → w.grownBy w' v.ownBlock → wpList Tryd.prog ops Q rest (a.put o.dst v') w') : wpList Tryd.prog ops Q (o :: rest) a w := by
  refine wpList_plain hgd fun K hK' => ?_
  obtain ⟨v', w', hrun, h2, h3⟩ := run_append_B w base t o.type e i z bytes ht hi hz hsize hby hzs v xs h ad c y hy h1 h63 hbytes hbase
  unfold Oper.wp
  simp [execOp, ho, resolve, invoke, builtin, hs, hx, hrun, Result.andThen]
  exact hK' _ _ (hK v' w' h2 h3)
end Go.Proofs.YtodnmbppgjbpmaaDoor

namespace Go.Proofs.YtodnmbppgjbpmaaDoor
open Go.RowKit
set_option linter.unusedVariables false

set_option maxHeartbeats 1600000 in
theorem startS_any (w : World) : Calls Tryd.prog 72 #[] w fun e w' => ∃ v, e = .returned v ∧ St w' v reg0 ∧ Below w.heap.size w w' := by
  go_enter Tryd.func72, Tryd.ntmps72
  go_wp2
  go_ret
  refine ⟨_, rfl, ⟨w.heap.size, 8, rfl, by simp, by omega, fun i hi => ?_⟩, (Below.refl _ _).alloc (Nat.le_refl _) _⟩
  refine (Blk.fresh w _ (reg0.row 8)).cell (Reg.row_get reg0 8 i hi)

/-- The bytes of the end, as integers. -/
def intsOf (s : ByteArray) : List Int := s.data.toList.map fun b => (b.toNat : Int)
theorem OwnB.form {w : World} {base n : Nat} {v : Value} {xs : List Value} (h : OwnB w base v xs) (hl : xs.length = n) : ∃ g cap, v = .slice (some ⟨g, 0, none⟩) n cap ∧ n ≤ cap := by
  obtain ⟨g, cap, e, _, _, h3, _⟩ := h
  exact ⟨g, cap, by rw [e, hl], by omega⟩
def sliceLen : Value → Nat
  | .slice _ n _ => n
  | _ => 0
def stage1 (t : ByteArray) (j : Nat) : List Value := Lib.byteCells t.data.toList ++ [.int .u8 128] ++ List.replicate j (.int .u8 0)
theorem stage1_len (t : ByteArray) (j : Nat) : (stage1 t j).length = t.size + 1 + j := by unfold stage1; simp [bc_len]; omega
theorem stage1_succ (t : ByteArray) (j : Nat) : stage1 t (j + 1) = stage1 t j ++ [.int .u8 0] := by unfold stage1; rw [List.replicate_succ']; simp
def zn (n : Nat) : Nat := (119 - n % 64) % 64
def stage2 (t : ByteArray) (i : Nat) : List Value := stage1 t (zn t.size) ++ ((be8 (8 * t.size)).take i).map (Value.int .u8)
theorem stage2_len (t : ByteArray) (i : Nat) (h : i ≤ 8) : (stage2 t i).length = t.size + 1 + zn t.size + i := by unfold stage2; simp [stage1_len, be8_len, h]
theorem stage2_succ (t : ByteArray) (i : Nat) (h : i < 8) : stage2 t (i + 1) = stage2 t i ++ [.int .u8 ((8 * t.size / 256 ^ (7 - i) % 256 : Nat) : Int)] := by
  unfold stage2
  rw [List.take_succ_eq_append_getElem (by rw [be8_len]; exact h)]
  simp [be8]
theorem stage2_all (t : ByteArray) : stage2 t 8 = Lib.byteCells (ended t).data.toList := by
  unfold stage2 stage1 ended tailS
  rw [List.take_of_length_le (by rw [be8_len]; omega)]
  rw [app_list, app_list, app_list]
  have e1 : ∀ l : List Int, (∀ x ∈ l, 0 ≤ x ∧ x < 256) → Lib.byteCells (strOfNums l).data.toList = l.map (Value.int .u8) := by
    intro l hl
    unfold strOfNums Lib.byteCells
    simp only [List.map_map]
    apply List.map_congr_left
    intro x hx
    obtain ⟨h0, h1⟩ := hl x hx
    simp; omega
  rw [← byteCells_append, ← byteCells_append, ← byteCells_append, e1 (be8 (8 * t.size)) (by intro x hx; simp [be8] at hx; obtain ⟨a, _, rfl⟩ := hx; omega)]
  have e2 : Lib.byteCells (Lib.repeatL [0] ((119 - t.size % 64) % 64)) = List.replicate (zn t.size) (Value.int .u8 0) := by
    have := Lib.repeatL_replicate 0 1 ((119 - t.size % 64) % 64)
    rw [show List.replicate 1 (0 : UInt8) = [0] from rfl] at this
    rw [this]
    unfold zn Lib.byteCells
    simp
  show _ = _ ++ ([Value.int .u8 128] ++ Lib.byteCells (Lib.repeatL [0] ((119 - t.size % 64) % 64)) ++ _)
  rw [e2]
  simp
theorem ended_size (t : ByteArray) : (ended t).size = 64 * ((ended t).size / 64) := by
  unfold ended; rw [ByteArray.size_append, tailS_size]; omega
set_option maxRecDepth 1000000 in
/-- A part of an owned row as a string. -/
theorem conv_part {w : World} {base g cap : Nat} {E : ByteArray} (h : OwnB w base (.slice (some ⟨g, 0, none⟩) E.size cap) (Lib.byteCells E.data.toList)) (a : Nat) (ha : a + 64 ≤ E.size) :
    (convert 22 9 (.slice (some ⟨g, a, none⟩) 64 (cap - a))).run Tryd.prog w = .ok (.string (E.extract a (a + 64))) w := by
  obtain ⟨g', cap', e, _, _, _, h4, _⟩ := h
  injection e with e1 _ _
  injection e1 with e1
  injection e1 with e1 _ _
  subst e1
  have hl : E.data.toList.length = E.size := len_list E
  have := run_convert_bytes_arg w 22 5 Tryd.underlying22 Tryd.underlying5 g a 64 (cap - a) (((E.data.toList.drop a).take 64).map fun b => (b.toNat : Int)) (by simp; omega) (fun i hi => by
    have hi' : a + i < E.data.size := by simpa using (show a + i < E.data.toList.length by omega)
    have e1 : E.data[a + i]? = some E.data[a + i] := Array.getElem?_eq_getElem hi'
    rw [h4 (a + i) (.int .u8 (E.data[a + i].toNat : Int)) (by simp [Lib.byteCells, e1])]
    simp [List.getD, hi, List.getElem?_drop, e1]) 9 Tryd.underlying9
  rw [this, strOfNums_bytes]
  congr 2
  apply ba_ext
  rw [ext_list, show a + 64 - a = 64 by omega]
theorem below_grown_B {B : Nat} {w wr w1 : World} {v : Value} {xs : List Value} {o : Obj} (hb : Below B w wr) (hB : B ≤ w.heap.size) (h : OwnB wr B v xs) (hg : (wr.alloc o).grownBy w1 v.ownBlock) : Below B w w1 := by
  have hs := hb.size
  exact (hb.alloc (by omega) o).grown hg (by simp; omega) (fun k e => (h.lt k e).1)

set_option maxHeartbeats 4000000 in
set_option maxRecDepth 1000000 in
theorem all_any (t : ByteArray) (w : World) (ht : t.size ≤ 100000) :
    Calls Tryd.prog 41 #[.string t] w fun e w' => e = .returned (.string (sha t)) ∧ Below w.heap.size w w' := by
  obtain ⟨i0, hi, hz0, hz1, hz2⟩ := info_parts infoU8
  have hbl : (Lib.byteCells t.data.toList).length = t.size := bc_len t
  have HBL := Lib.hid hbl
  clear hbl
  go_enter Tryd.func41, Tryd.ntmps41
  go_wp2_with (first
    | (refine wpList_conv_bytes rfl (.tmp 11) rfl t w.heap.size rfl (Nat.le_refl _) ?_; intro v1 w1 ho1 hb1; have hz := hb1.size)
    | (at_builtin; refine wpList_append_B rfl _ _ 22 rfl w.heap.size 5 i0 (.int .u8 0) 1 Tryd.underlying22 hi hz0 hz1 hz2 rfl _ _ rfl (ho1.alloc _) ⟨w1.heap.size, 0, none⟩ 1 (.int .u8 128) rfl (by simp) rfl (by rw [HBL.out]; unfold maxLen; omega) (by rw [HBL.out]; omega) (by simp; omega) ?_; intro v2 w2 ho2 hg2))
  have hb2 : Below w.heap.size w w2 := below_grown_B hb1 (Nat.le_refl _) ho1 hg2
  clear hg2 hb1
  have ho2' : OwnB w2 w.heap.size v2 (stage1 t 0) := by unfold stage1; simpa using ho2
  obtain ⟨z, HZ⟩ : ∃ z, Hid (zn t.size = z) := ⟨_, rfl⟩
  have hzz : Hid (z = (119 - t.size % 64) % 64) := HZ.out ▸ rfl
  have hz63 : z ≤ 63 := by have := hzz.out; omega
  go_loopw [3] (fun v wr => ∃ (j : Nat), j ≤ z ∧ OwnB wr w.heap.size v (stage1 t j) ∧ Below w.heap.size w wr) (fun v wr => t.size + 1 + z - sliceLen v)
  case atStart => exact ⟨0, by omega, ho2', hb2⟩
  case round =>
    clear ho2 ho2' hb2
    obtain ⟨j, hj, ho, hb⟩ := hrel
    obtain ⟨n, HN⟩ : ∃ n, Hid (n = t.size + 1 + j) := ⟨_, rfl⟩
    obtain ⟨g, cap, rfl, hcap⟩ := ho.form (n := n) (by rw [stage1_len]; exact HN.out.symm)
    have hn0 : n ≤ 200000 := by have := HN.out; have := hzz.out; omega
    by_cases hlt : j < z
    · have hd : (((n : Int) % 64) != 56) = true := by have := HN.out; have := hzz.out; rw [bne_iff_ne]; omega
      have hsz := hb.size
      go_wp2_with (at_builtin; refine wpList_append_B rfl _ _ 22 rfl w.heap.size 5 i0 (.int .u8 0) 1 Tryd.underlying22 hi hz0 hz1 hz2 rfl _ _ rfl (ho.alloc _) ⟨wr.heap.size, 0, none⟩ 1 (.int .u8 0) rfl (by simp) rfl (by rw [stage1_len]; unfold maxLen; omega) (by rw [stage1_len]; have := hzz.out; omega) (by simp; omega) ?_; intro v3 w3 ho3 hg3)
      rw [← stage1_succ] at ho3
      have hb3 : Below w.heap.size w w3 := below_grown_B hb (Nat.le_refl _) ho hg3
      obtain ⟨g3, cap3, rfl, _⟩ := ho3.form (n := t.size + 1 + (j + 1)) (stage1_len _ _)
      exact ⟨⟨j + 1, by omega, ho3, hb3⟩, by simp [sliceLen]; have := HN.out; omega⟩
    · obtain rfl : j = z := by omega
      have hd : (((n : Int) % 64) != 56) = false := by have := HN.out; have := hzz.out; rw [bne_eq_false_iff_eq]; omega
      have h2 : stage1 t j = stage2 t 0 := by unfold stage2; rw [HZ.out]; simp
      rw [h2] at ho
      clear h2
      have hsz8 : 8 * (t.size : Int) ≤ 800000 := by omega
      go_wp2
      go_loopw [3, 5] (fun v q wr => ∃ (i : Nat), i ≤ 8 ∧ q = .int .i64 (56 - 8 * (i : Int)) ∧ OwnB wr w.heap.size v (stage2 t i) ∧ Below w.heap.size w wr) (fun _ q _ => (8 + intOf q).toNat)
      case atStart => exact ⟨0, by omega, rfl, ho, hb⟩
      case round =>
        clear ho hb hcap
        obtain ⟨i, hi8, rfl, ho, hb⟩ := hrel
        by_cases hlt : i < 8
        · obtain ⟨κ, HK⟩ : ∃ κ : Nat, Hid (κ + 8 * i = 56) := ⟨56 - 8 * i, by unfold Hid; omega⟩
          have hκ : (56 : Int) - 8 * (i : Int) = (κ : Int) := by have := HK.out; omega
          rw [hκ]
          clear hκ
          have hk56 : κ ≤ 56 := by have := HK.out; omega
          have hsz := hb.size
          have hl2 := Lib.hid (stage2_len t i hi8)
          have HZ' := Lib.hid HZ.out
          go_wp2_with (at_builtin; refine wpList_append_B rfl _ _ 22 rfl w.heap.size 5 i0 (.int .u8 0) 1 Tryd.underlying22 hi hz0 hz1 hz2 rfl _ _ rfl (ho.alloc _) ⟨wr.heap.size, 0, none⟩ 1 (.int .u8 (8 * (t.size : Int) / 2 ^ κ % 256)) rfl (by simp) rfl (by rw [hl2.out, HZ'.out]; unfold maxLen; omega) (by rw [hl2.out, HZ'.out]; omega) (by simp; omega) ?_; intro v3 w3 ho3 hg3)
          have hby : (8 * (t.size : Int) / 2 ^ κ % 256) = ((8 * t.size / 256 ^ (7 - i) % 256 : Nat) : Int) := by
            have e : (256 : Nat) ^ (7 - i) = 2 ^ κ := by rw [show (256 : Nat) = 2 ^ 8 from rfl, ← Nat.pow_mul]; congr 1; have := HK.out; omega
            rw [e]; simp
          rw [hby, ← stage2_succ t i hlt] at ho3
          have hb3 : Below w.heap.size w w3 := below_grown_B hb (Nat.le_refl _) ho hg3
          exact ⟨⟨i + 1, by omega, by congr 1; have := HK.out; omega, ho3, hb3⟩, by simp [intOf]; omega⟩
        · obtain rfl : i = 8 := by omega
          rw [stage2_all] at ho
          obtain ⟨E, HE⟩ : ∃ E, Hid (ended t = E) := ⟨_, rfl⟩
          rw [HE.out] at ho
          obtain ⟨g, cap, rfl, hcap⟩ := ho.form (n := E.size) (bc_len E)
          have HES : Hid (E.size = 64 * (E.size / 64)) := by unfold Hid; rw [← HE.out]; exact ended_size t
          have he0 : E.size ≤ 200000 := by rw [← HE.out]; unfold ended; rw [ByteArray.size_append, tailS_size]; omega
          go_wp2_with (go_at_call 72; refine (startS_any _).mono ?_; rintro e w4 ⟨v4, rfl, hst, hb4⟩)
          have ho4 := ho.below hb4
          have hb5 : Below w.heap.size w w4 := hb.trans (hb4.mono hb.size)
          clear ho hb hb4
          go_loopw [6, 7] (fun st q wr => ∃ (k : Nat), 64 * k ≤ E.size ∧ q = .int .i64 ((64 * k : Nat) : Int) ∧ St wr st (foldB reg0 E k) ∧ OwnB wr w.heap.size (.slice (some ⟨g, 0, none⟩) E.size cap) (Lib.byteCells E.data.toList) ∧ Below w.heap.size w wr) (fun _ q _ => E.size - (intOf q).toNat)
          case atStart => exact ⟨0, by omega, rfl, hst, ho4, hb5⟩
          case round =>
            clear hst ho4 hb5
            obtain ⟨k, hk, rfl, hst, ho, hb⟩ := hrel
            obtain ⟨a, HA⟩ : ∃ a, Hid (a = 64 * k) := ⟨_, rfl⟩
            rw [← HA.out]
            have ha : a ≤ E.size := by rw [HA.out]; exact hk
            by_cases hlt : a < E.size
            · have ha2 : a + 64 ≤ E.size := by have := HA.out; have := HES.out; omega
              have hcv := conv_part ho a ha2
              have hne : ¬ cap = a := by omega
              have p64 : 0 ≤ (a : Int) + 64 := by omega
              have q64 : (a : Int) + 64 ≤ (E.size : Int) := by omega
              have r64 : (a : Int) ≤ (a : Int) + 64 := by omega
              have t64 : ((a : Int) + 64).toNat = a + 64 := by omega
              have c64 : a + 64 ≤ cap := by omega
              have hx : Hid ((E.extract a (a + 64)).size = 64) := by unfold Hid; rw [ByteArray.size_extract]; omega
              go_wp2_with (go_at_call 73; refine (block_any _ _ _ _ hx.out hst (foldB_bd reg0_bd E k)).mono ?_; rintro e w5 ⟨v5, rfl, hst5, hb5⟩)
              have ho5 := ho.below hb5
              have hb6 : Below w.heap.size w w5 := hb.trans (hb5.mono hb.size)
              refine ⟨⟨k + 1, by have := HA.out; omega, ?_, ?_, ho5, hb6⟩, by simp [intOf]; omega⟩
              · have := HA.out; congr 1; omega
              · rw [HA.out] at hst5; exact hst5
            · have hkn : Hid (k = E.size / 64) := by unfold Hid; have := HA.out; have := HES.out; omega
              obtain ⟨R, HR⟩ : ∃ R, Hid (foldB reg0 E k = R) := ⟨_, rfl⟩
              have hRb : Hid R.Bd := by unfold Hid; rw [← HR.out]; exact foldB_bd reg0_bd E k
              have HF : Hid (sha t = strOfNums (R.upto 8)) := by unfold Hid sha; rw [HE.out, ← hkn.out, HR.out]; rfl
              rw [HR.out] at hst
              obtain ⟨gs, cs, rfl, hgs, hcs, hcell⟩ := hst
              have HC := Lib.hid hcell
              clear hcell
              have hbs := hb.size
              have ho0 := World.ownsRow_lit (base := w.heap.size) (e := 5) (size := 1) wr #[] 0 hbs (by simp) (by simp)
              have HO0 := Lib.hid ho0
              clear ho0
              go_wp2
              go_loopw [8, 9, 10] (fun o q _ wq => ∃ (i : Nat), i ≤ 8 ∧ q = .int .i64 i ∧ wq.ownsRow w.heap.size 5 1 o (R.upto i).length ((R.upto i).map (Value.int .u8)) ∧ Below w.heap.size w wq ∧ Hid (∀ i, i < 8 → wq.cell? ⟨gs, i, none⟩ = some (.int .i64 (R.at_ i))) ∧ Hid (some gs ≠ o.ownBlock) ∧ gs < wq.heap.size) (fun _ q _ _ => 8 - (intOf q).toNat)
              case atStart =>
                refine ⟨0, by omega, rfl, HO0.out, hb.alloc hbs _, fun i hi => ?_, ?_, by simp; omega⟩
                · rw [World.cell?_alloc_lt wr _ ⟨gs, i, none⟩ hgs]; exact HC.out i hi
                · unfold Hid; simp [Value.ownBlock]; omega
              case round =>
                obtain ⟨i, hi8', rfl, hown, hbq, HCq, hne, hlt8⟩ := hrel
                by_cases hlti : i < 8
                · have x1 := HCq.out i hlti
                  obtain ⟨q0, q1⟩ := Reg.at_bd hRb.out i
                  have HL := Lib.hid (upto_len R i hi8')
                  have hlt' : (i : Int) < 8 := by omega
                  have hsq := hbq.size
                  go_wp2_with (at_builtin; refine wpList_append_lies _ rfl _ _ 22 rfl w.heap.size 5 i0 (.int .u8 0) 1 1 Tryd.underlying22 hi hz0 hz1 hz2 rfl (by decide) _ _ _ rfl (hown.alloc _) ⟨wr.heap.size, 0, none⟩ 4 4 ((be4 (R.at_ i)).map (Value.int .u8)) rfl rfl (new_cells _ _ _) (be4_one _) (by omega) (by rw [HL.out]; unfold maxLen; omega) (by rw [HL.out]; omega) (by simp; omega) (wr.heap.size + 1) (by simp) ?_; intro gg cap' w' hown' hgrow' hat hlt')
                  have hr1 := upto_succ R i hlti
                  refine ⟨⟨i + 1, by omega, by go_num, ?_, below_app hbq (Nat.le_refl _) hown hgrow', fun q hq => ?_, ?_, ?_⟩, by simp [intOf]; omega⟩
                  · rw [hr1, List.map_append, List.length_append]; exact hown'
                  · rw [hgrow'.cell_far ⟨gs, q, none⟩ (by simp; omega) hne.out, World.cell?_alloc_lt wr _ ⟨gs, q, none⟩ hlt8]; exact HCq.out q hq
                  · unfold Hid
                    intro e
                    simp [Value.ownBlock] at e
                    rcases hat with h | h
                    · exact hne.out (by rw [e]; exact h.symm)
                    · omega
                  · have := hgrow'.size; simp at this; omega
                · obtain rfl : i = 8 := by omega
                  have hcv := own_string hown
                  go_wp2
                  go_ret
                  exact ⟨retS HF.out.symm, hbq⟩
end Go.Proofs.YtodnmbppgjbpmaaDoor
