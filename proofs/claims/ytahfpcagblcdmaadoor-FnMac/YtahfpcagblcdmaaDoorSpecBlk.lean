/- The specification's block. -/
import Derived.Test.YtahfpcagblcdmaaDoorPad
import Derived.StillTailTactics
import Derived.Deep.DeepFit
import Derived.Laws.AppendOwn
import Derived.Deep.RegionHeld3
import Derived.Deep.AppendLies
namespace Go.Proofs.YtahfpcagblcdmaaDoor
open Go.RowKit
set_option linter.unusedVariables false

def zeros32 (n : Nat) : List Value := List.replicate n (.int .u32 0)
theorem mk64u (w : World) : (Instr.makeSlice 61 (.int .i64 64) (.int .i64 64)).run Tryd.prog w = .ok (.slice (some ⟨w.heap.size, 0, none⟩) 64 64) (w.alloc (.cells (zeros32 64).toArray 47)) := by kernel_rfl
/-- A value that lies in new memory: a slice whose cells are these. -/
def NewRow (t : TypeId) (cs : List Value) (w : World) (e : Ending) (w' : World) : Prop :=
  ∃ g, w.heap.size ≤ g ∧ e = .returned (.slice (some ⟨g, 0, none⟩) cs.length cs.length) ∧ Blk w' g t cs ∧ Below w.heap.size w w'
set_option maxHeartbeats 1600000 in
theorem keys_any (w : World) : Calls Tryd.prog 40 #[] w (NewRow 47 (ints .u32 64 keyI) w) := by
  go_enter Tryd.func40, Tryd.ntmps40
  go_wp2
  go_ret
  exact ⟨w.heap.size, Nat.le_refl _, rfl, Blk.fresh w _ _, (Below.refl _ _).alloc (Nat.le_refl _) _⟩

theorem turn_still (x k : Int) (w : World) (h0 : 0 ≤ x) (h1 : x ≤ 4294967295) (k0 : 1 ≤ k) (k1 : k ≤ 31) :
    Calls Tryd.prog 39 #[.int .u32 x, .int .u64 k] w fun e w' => e = .returned (.int .u32 (rotr x k)) ∧ w' = w :=
  (turn_any x k w h0 h1 k0 k1).mono fun _ _ ⟨he, hw⟩ => ⟨he, hw.symm⟩
/-- A slice of eight integers that holds the state. -/
def St (w : World) (v : Value) (r : Reg) : Prop := ∃ g c, v = .slice (some ⟨g, 0, none⟩) 8 c ∧ g < w.heap.size ∧ 8 ≤ c ∧ ∀ i, i < 8 → w.cell? ⟨g, i, none⟩ = some (.int .i64 (r.at_ i))
theorem St.below {w w' : World} {v : Value} {r : Reg} (h : St w v r) (hb : Below w.heap.size w w') : St w' v r := by
  obtain ⟨g, c, e, hl, hc, hx⟩ := h
  exact ⟨g, c, e, Nat.lt_of_lt_of_le hl hb.size, hc, fun i hi => by rw [hb.cell (p := ⟨g, i, none⟩) hl]; exact hx i hi⟩

theorem infoI64 : (Tryd.prog.info? 2).map (fun i => (i.zero, i.size, i.bytes)) = some (some (.int .i64 0), 1, 8) := by kernel_rfl
theorem own_ne {w : World} {base : Nat} {e t : TypeId} {n g : Nat} {v : Value} {xs cs : List Value} (h : w.ownsRow base e 1 v n xs) (hg : Blk w g t cs) (hne : e ≠ t) : some g ≠ v.ownBlock := by
  rcases h.2 with ⟨rfl, _⟩ | ⟨g', cap, cur, rfl, _, hh, _⟩
  · simp [Value.ownBlock]
  · intro he
    have : g = g' := by simpa [Value.ownBlock] using he
    subst this
    unfold Blk at hg
    rw [hh] at hg
    injection hg with hg
    injection hg with _ ht
    exact hne ht
theorem Reg.cell8 (r : Reg) (k : Nat) (h : k < 8) : r.cells[k]? = some (.int .u32 (r.at_ k)) := by
  match k, h with
  | 0, _ | 1, _ | 2, _ | 3, _ | 4, _ | 5, _ | 6, _ | 7, _ => rfl
theorem addR_at (r q : Reg) (k : Nat) (h : k < 8) : (addR r q).at_ k = (r.at_ k + q.at_ k) % 4294967296 := by
  match k, h with
  | 0, _ | 1, _ | 2, _ | 3, _ | 4, _ | 5, _ | 6, _ | 7, _ => rfl
def Reg.row (r : Reg) (k : Nat) : List Value := (List.range k).map fun i => Value.int .i64 (r.at_ i)
theorem Reg.row_len (r : Reg) (k : Nat) : (r.row k).length = k := by simp [Reg.row]
theorem Reg.row_succ (r : Reg) (k : Nat) : r.row (k + 1) = r.row k ++ [.int .i64 (r.at_ k)] := by simp [Reg.row, List.range_succ]
theorem Reg.row_get (r : Reg) (k i : Nat) (h : i < k) : (r.row k)[i]? = some (.int .i64 (r.at_ i)) := by simp [Reg.row, h]
theorem st_of_own {w : World} {base : Nat} {v : Value} {r : Reg} (h : w.ownsRow base 2 1 v 8 (r.row 8)) : St w v r := by
  rcases h.2 with ⟨rfl, h0⟩ | ⟨g, cap, cur, rfl, hb, hh, hc, hm, hs, ht⟩
  · cases h0
  · have hbl : Blk w g 2 cur.toList := by unfold Blk; simpa using hh
    exact ⟨g, cap, rfl, hbl.lt, hc, fun i hi => by
      have := World.ownsRow.cellAt (w := w) (g := g) (cap := cap) h i (by omega)
      rw [this]; exact Reg.row_get r 8 i hi⟩

set_option maxHeartbeats 4000000 in
set_option maxRecDepth 1000000 in
theorem block_any (s : ByteArray) (v : Value) (r : Reg) (w : World) (hs : s.size = 64) (hv : St w v r) (hr : r.Bd) :
    Calls Tryd.prog 31 #[v, .string s] w fun e w' => ∃ v', e = .returned v' ∧ St w' v' (mixR s r) ∧ Below w.heap.size w w' := by
  obtain ⟨gs, cap, rfl, hgs, hcap, hcs⟩ := hv
  obtain ⟨ra, rb, rc, rd, re, rf, rg, rh⟩ := r
  have HR := Lib.hid hr
  clear hr
  have HCS := Lib.hid hcs
  clear hcs
  have HS := Lib.hid hs
  have hs0 : s.size ≤ 64 := by omega
  have hs1 : 64 ≤ s.size := by omega
  clear hs
  have hmk := mk64u
  have hr0 : Hid (zeros32 64 = ints .u32 64 (upto 0 (schedW s))) := upto_none.symm
  go_enter Tryd.func31, Tryd.ntmps31
  go_wp2
  go_loopw [6] (fun i wr => ∃ k : Nat, k ≤ 16 ∧ i = .int .i64 k ∧ Blk wr w.heap.size 47 (ints .u32 64 (upto k (schedW s))) ∧ Below w.heap.size w wr) (fun i _ => 16 - (intOf i).toNat)
  case atStart => exact ⟨0, by omega, rfl, by rw [← hr0.out]; exact Blk.fresh w _ _, (Below.refl _ _).alloc (Nat.le_refl _) _⟩
  case round =>
    obtain ⟨k, hk, rfl, hW, hb⟩ := hrel
    by_cases hlt : k < 16
    · have c1 := hW.cell (ints_get (f := upto k (schedW s)) (i := k) (n := 64) (by omega))
      have f1 := hW.froz k
      obtain ⟨a, HA⟩ : ∃ a, Hid (4 * k = a) := ⟨_, rfl⟩
      have hA := HA.out
      have i0 : a < s.size := by omega
      have i1 : a + 1 < s.size := by omega
      have i2 : a + 2 < s.size := by omega
      have i3 : a + 3 < s.size := by omega
      have HW : Hid (word s a = bits .or .u32 (bits .or .u32 (bits .or .u32 ((s[a].toNat : Int) % 4294967296 * 16777216 % 4294967296) ((s[a + 1].toNat : Int) % 4294967296 * 65536 % 4294967296)) ((s[a + 2].toNat : Int) % 4294967296 * 256 % 4294967296)) ((s[a + 3].toNat : Int) % 4294967296)) := by
        unfold Hid word; rw [byteI_eq i0, byteI_eq i1, byteI_eq i2, byteI_eq i3]
      have j1 : 0 ≤ (a : Int) + 1 := by omega
      have j2 : 0 ≤ (a : Int) + 2 := by omega
      have j3 : 0 ≤ (a : Int) + 3 := by omega
      have k1 : (a : Int) + 1 < (s.size : Int) := by omega
      have k2 : (a : Int) + 2 < (s.size : Int) := by omega
      have k3 : (a : Int) + 3 < (s.size : Int) := by omega
      have t1 : ((a : Int) + 1).toNat = a + 1 := by omega
      have t2 : ((a : Int) + 2).toNat = a + 2 := by omega
      have t3 : ((a : Int) + 3).toNat = a + 3 := by omega
      have hlt' : (k : Int) < 64 := by omega
      have e0 : IntKind.i64.wrap (4 * (k : Int)) = (a : Int) := by rw [IntWalk.i64_in _ (by omega)]; omega
      have e1 : IntKind.i64.wrap ((a : Int) + 1) = (a : Int) + 1 := IntWalk.i64_in _ (by omega)
      have e2 : IntKind.i64.wrap ((a : Int) + 2) = (a : Int) + 2 := IntWalk.i64_in _ (by omega)
      have e3 : IntKind.i64.wrap ((a : Int) + 3) = (a : Int) + 3 := IntWalk.i64_in _ (by omega)
      clear hA
      go_wp2
      refine wp_region_still_tail 32 (by kernel_rfl) (by kernel_rfl) ?_
      simp only [List.take_succ_cons, List.take_zero, List.drop_succ_cons, List.drop_zero]
      change wpStill _ _ wr.drew (fun a' => wpList _ _ _ _ a' wr.drew) _ _
      repeat still_step
      refine wpStill_nil ?_
      go_wp2
      have hp := hW.drew.put k (.int .u32 (word s a))
      rw [upto_set (by omega) (by rw [schedW_lo hlt, HA.out]), HW.out] at hp
      exact ⟨⟨k + 1, by omega, by go_num, hp, (below_drew hb).setCell (Nat.le_refl _) _⟩, by simp [intOf]; omega⟩
    · obtain rfl : k = 16 := by omega
      clear hlt hk
      simp only [show ((16 : Nat) : Int) = 16 from rfl]
      go_wp2
      go_loopw [7, 8, 9] (fun i _ _ wq => ∃ k : Nat, 16 ≤ k ∧ k ≤ 64 ∧ i = .int .i64 k ∧ Blk wq w.heap.size 47 (ints .u32 64 (upto k (schedW s))) ∧ Below w.heap.size w wq) (fun i _ _ _ => 64 - (intOf i).toNat)
      case atStart => exact ⟨16, by omega, by omega, rfl, hW, hb⟩
      case round =>
        clear hW hb
        obtain ⟨k, hk0, hk, rfl, hW, hb⟩ := hrel
        by_cases hlt : k < 64
        · obtain ⟨a, HA⟩ : ∃ a, Hid (a + 16 = k) := ⟨k - 16, by unfold Hid; omega⟩
          have hA := HA.out
          have q1 : 0 ≤ schedW s (a + 1) ∧ schedW s (a + 1) ≤ 4294967295 := schedW_bd _ _
          have q2 : 0 ≤ schedW s (a + 14) ∧ schedW s (a + 14) ≤ 4294967295 := schedW_bd _ _
          obtain ⟨q1a, q1b⟩ := q1
          obtain ⟨q2a, q2b⟩ := q2
          have HK : Hid (schedW s k = wsum (schedW s a) (schedW s (a + 1)) (schedW s (a + 9)) (schedW s (a + 14))) := by
            unfold Hid; rw [schedW_hi (by omega), ← hA]; rfl
          have c0 := hW.cell (upto_get (f := schedW s) (i := a) hk (by omega))
          have c1 := hW.cell (upto_get (f := schedW s) (i := a + 1) hk (by omega))
          have c9 := hW.cell (upto_get (f := schedW s) (i := a + 9) hk (by omega))
          have c14 := hW.cell (upto_get (f := schedW s) (i := a + 14) hk (by omega))
          have ck := hW.cell (ints_get (f := upto k (schedW s)) (i := k) (n := 64) hlt)
          have fk := hW.froz k
          have hlt' : (k : Int) < 64 := by omega
          have b1 : (0 : Int) ≤ ((a + 1 : Nat) : Int) ∧ ((a + 1 : Nat) : Int) < 64 := by omega
          have b14 : (0 : Int) ≤ ((a + 14 : Nat) : Int) ∧ ((a + 14 : Nat) : Int) < 64 := by omega
          have e15 : (k : Int) - 15 = ((a + 1 : Nat) : Int) := by omega
          have e2 : (k : Int) - 2 = ((a + 14 : Nat) : Int) := by omega
          have w16 : IntKind.i64.wrap ((k : Int) - 16) = ((a : Nat) : Int) := by rw [IntWalk.i64_in _ (by omega)]; omega
          have w7 : IntKind.i64.wrap ((k : Int) - 7) = ((a + 9 : Nat) : Int) := by rw [IntWalk.i64_in _ (by omega)]; omega
          have b0 : (0 : Int) ≤ ((a : Nat) : Int) ∧ ((a : Nat) : Int) < 64 := by omega
          have b9 : (0 : Int) ≤ (a : Int) + 9 := by omega
          have b9' : (a : Int) + 9 < 64 := by omega
          have b9t : ((a : Int) + 9).toNat = a + 9 := by omega
          clear hA
          go_wp2
          refine wp_region_still_tail 32 (by kernel_rfl) (by kernel_rfl) ?_
          simp only [List.take_succ_cons, List.take_zero, List.drop_succ_cons, List.drop_zero]
          change wpStill _ _ wr.drew (fun a' => wpList _ _ _ _ a' wr.drew) _ _
          repeat (first | still_step | still_call (turn_still _ _ _ (by omega) (by omega) (by omega) (by omega)))
          refine wpStill_nil ?_
          go_wp2
          have hp := (hW.put k (.int .u32 (schedW s k))).drew
          rw [upto_set hlt rfl, HK.out] at hp
          exact ⟨⟨k + 1, by omega, by omega, by go_num, hp, below_drew (hb.setCell (Nat.le_refl _) _)⟩, by simp [intOf]; omega⟩
        · obtain rfl : k = 64 := by omega
          clear hlt hk hk0
          rw [upto_all] at hW
          simp only [show ((64 : Nat) : Int) = 64 from rfl]
          obtain ⟨⟨a0, a1⟩, ⟨b0, b1⟩, ⟨cc0, cc1⟩, ⟨d0, d1⟩, ⟨e0, e1⟩, ⟨f0, f1⟩, ⟨g0, g1⟩, ⟨h0, hh1⟩⟩ := HR.out
          dsimp only at *
          have hcell : ∀ i, i < 8 → wr.cell? ⟨gs, i, none⟩ = some (.int .i64 ((⟨ra, rb, rc, rd, re, rf, rg, rh⟩ : Reg).at_ i)) := fun i hi => by
            rw [hb.cell (p := ⟨gs, i, none⟩) hgs]; exact HCS.out i hi
          have x0 : wr.cell? ⟨gs, 0, none⟩ = some (.int .i64 ra) := hcell 0 (by omega)
          have x1 : wr.cell? ⟨gs, 1, none⟩ = some (.int .i64 rb) := hcell 1 (by omega)
          have x2 : wr.cell? ⟨gs, 2, none⟩ = some (.int .i64 rc) := hcell 2 (by omega)
          have x3 : wr.cell? ⟨gs, 3, none⟩ = some (.int .i64 rd) := hcell 3 (by omega)
          have x4 : wr.cell? ⟨gs, 4, none⟩ = some (.int .i64 re) := hcell 4 (by omega)
          have x5 : wr.cell? ⟨gs, 5, none⟩ = some (.int .i64 rf) := hcell 5 (by omega)
          have x6 : wr.cell? ⟨gs, 6, none⟩ = some (.int .i64 rg) := hcell 6 (by omega)
          have x7 : wr.cell? ⟨gs, 7, none⟩ = some (.int .i64 rh) := hcell 7 (by omega)
          have HC := Lib.hid hcell
          clear hcell
          have y0 : IntKind.u32.wrap ra = ra := by rw [IntKind.wrap_u32]; omega
          have y1 : IntKind.u32.wrap rb = rb := by rw [IntKind.wrap_u32]; omega
          have y2 : IntKind.u32.wrap rc = rc := by rw [IntKind.wrap_u32]; omega
          have y3 : IntKind.u32.wrap rd = rd := by rw [IntKind.wrap_u32]; omega
          have y4 : IntKind.u32.wrap re = re := by rw [IntKind.wrap_u32]; omega
          have y5 : IntKind.u32.wrap rf = rf := by rw [IntKind.wrap_u32]; omega
          have y6 : IntKind.u32.wrap rg = rg := by rw [IntKind.wrap_u32]; omega
          have y7 : IntKind.u32.wrap rh = rh := by rw [IntKind.wrap_u32]; omega
          go_wp2
          go_quiet (fail)
          generalize nq = nqa
          go_wp2
          go_quiet (fail)
          clear x0 x1 x2 x3 x4 x5 x6 x7 y0 y1 y2 y3 y4 y5 y6 y7
          go_wp2_with (go_at_call 40; refine (keys_any _).mono ?_; rintro e w2 ⟨gk, hgk, rfl, hKb, hbk⟩; simp only [ints_len])
          have hW2 := (hW.drewN (nqa + nq)).below hbk (hW.drewN (nqa + nq)).lt
          have hlw : gs < (wr.drewN (nqa + nq)).heap.size := Nat.lt_of_lt_of_le hgs hb.size
          have HC2 : Hid (∀ i, i < 8 → w2.cell? ⟨gs, i, none⟩ = some (.int .i64 ((⟨ra, rb, rc, rd, re, rf, rg, rh⟩ : Reg).at_ i))) := fun i hi => by
            rw [hbk.cell (p := ⟨gs, i, none⟩) hlw]; exact HC.out i hi
          have hb2 : Below w.heap.size w w2 := (below_drewN hb _).trans (hbk.mono hb.size)
          clear HC hbk hgk hlw hW hb
          go_loopw [10, 11, 12, 13, 14, 15, 16, 17, 19, 20, 21] (fun sa sb sc sd se sf sg sh i _ _ wq => ∃ (k : Nat) (q : Reg), k ≤ 64 ∧ Hid (q = rounds s ⟨ra, rb, rc, rd, re, rf, rg, rh⟩ k) ∧ i = .int .i64 k ∧ sa = .int .u32 q.a ∧ sb = .int .u32 q.b ∧ sc = .int .u32 q.c ∧ sd = .int .u32 q.d ∧ se = .int .u32 q.e ∧ sf = .int .u32 q.f ∧ sg = .int .u32 q.g ∧ sh = .int .u32 q.h ∧
              Blk wq w.heap.size 47 (ints .u32 64 (schedW s)) ∧ Blk wq gk 47 (ints .u32 64 keyI) ∧ Hid (∀ i, i < 8 → wq.cell? ⟨gs, i, none⟩ = some (.int .i64 ((⟨ra, rb, rc, rd, re, rf, rg, rh⟩ : Reg).at_ i))) ∧ Below w.heap.size w wq)
            (fun _ _ _ _ _ _ _ _ i _ _ _ => 64 - (intOf i).toNat)
          case atStart => exact ⟨0, _, by omega, rfl, rfl, rfl, rfl, rfl, rfl, rfl, rfl, rfl, rfl, hW2, hKb, HC2, hb2⟩
          case round =>
            clear hW2 hKb HC2 hb2
            obtain ⟨k, q, hk, HQ, rfl, rfl, rfl, rfl, rfl, rfl, rfl, rfl, rfl, hW, hKb, HC, hb⟩ := hrel
            have hq : q.Bd := by rw [HQ.out]; exact rounds_bd HR.out k
            obtain ⟨qa, qb, qc, qd, qe, qf, qg, qh⟩ := q
            obtain ⟨⟨a0, a1⟩, ⟨b0, b1⟩, ⟨cc0, cc1⟩, ⟨d0, d1⟩, ⟨e0, e1⟩, ⟨f0, f1⟩, ⟨g0, g1⟩, ⟨h0, hh1⟩⟩ := hq
            dsimp only at *
            by_cases hlt : k < 64
            · have x1 := hW.cell (ints_get (f := schedW s) (i := k) hlt)
              have x2 := hKb.cell (ints_get (f := keyI) (i := k) hlt)
              have hlt' : (k : Int) < 64 := by omega
              go_wp2
              go_quiet ((go_at_call 39; exact quiet_eq (turn_any _ _ _ (by omega) (by omega) (by omega) (by omega))))
              go_wp2_with (go_at_call 39; refine (turn_any _ _ _ (by omega) (by omega) (by omega) (by omega)).mono ?_; rintro e w' ⟨rfl, rfl⟩)
              exact ⟨⟨k + 1, rnd ⟨qa, qb, qc, qd, qe, qf, qg, qh⟩ (keyI k) (schedW s k), by omega, by unfold Hid; rw [HQ.out]; rfl, by go_num, rfl, rfl, rfl, rfl, rfl, rfl, rfl, rfl, hW.drewN _, hKb.drewN _, HC.out, below_drewN hb _⟩, by simp [intOf]; omega⟩
            · obtain rfl : k = 64 := by omega
              clear hlt hk
              simp only [show ((64 : Nat) : Int) = 64 from rfl]
              obtain ⟨gv, HGV⟩ : ∃ gv, Hid (wr.heap.size = gv) := ⟨_, rfl⟩
              have hv0 : Blk ((wr.alloc (.cells (⟨qa, qb, qc, qd, qe, qf, qg, qh⟩ : Reg).cells.toArray 47)).alloc (.cells #[] 2)) wr.heap.size 47 (⟨qa, qb, qc, qd, qe, qf, qg, qh⟩ : Reg).cells := (Blk.fresh wr _ _).alloc _
              have ho0 : ((wr.alloc (.cells (⟨qa, qb, qc, qd, qe, qf, qg, qh⟩ : Reg).cells.toArray 47)).alloc (.cells #[] 2)).ownsRow w.heap.size 2 1 (.slice (some ⟨wr.heap.size + 1, 0, none⟩) 0 0) 0 [] := by
               have := World.ownsRow_lit (base := w.heap.size) (e := 2) (size := 1) (wr.alloc (.cells (⟨qa, qb, qc, qd, qe, qf, qg, qh⟩ : Reg).cells.toArray 47)) #[] 0 (by have := hb.size; simp; omega) (by simp) (by simp)
               simpa using this
              have hb0 : Below w.heap.size w ((wr.alloc (.cells (⟨qa, qb, qc, qd, qe, qf, qg, qh⟩ : Reg).cells.toArray 47)).alloc (.cells #[] 2)) := (hb.alloc hb.size _).alloc (by have := hb.size; simp; omega) _
              have hC0 : Hid (∀ i, i < 8 → ((wr.alloc (.cells (⟨qa, qb, qc, qd, qe, qf, qg, qh⟩ : Reg).cells.toArray 47)).alloc (.cells #[] 2)).cell? ⟨gs, i, none⟩ = some (.int .i64 ((⟨ra, rb, rc, rd, re, rf, rg, rh⟩ : Reg).at_ i))) := fun i hi => by
                rw [hb0.cell (p := ⟨gs, i, none⟩) hgs]; exact HCS.out i hi
              have HV0 := Lib.hid hv0
              have HO0 := Lib.hid ho0
              have HB0 := Lib.hid hb0
              clear hv0 ho0 hb0 hW hKb HC
              rw [HGV.out] at HO0 HV0
              go_wp2
              have egv : wr.heap.size = gv := HGV.out
              simp only [egv]
              clear egv
              obtain ⟨ie, hie, iz0, iz1, iz2⟩ := info_parts infoI64
              go_loopw [23, 24] (fun u i wq => ∃ (k : Nat) (v : Value), k ≤ 8 ∧ u = v ∧ i = .int .i64 k ∧ wq.ownsRow w.heap.size 2 1 v k ((addR ⟨ra, rb, rc, rd, re, rf, rg, rh⟩ ⟨qa, qb, qc, qd, qe, qf, qg, qh⟩).row k) ∧ Blk wq gv 47 (⟨qa, qb, qc, qd, qe, qf, qg, qh⟩ : Reg).cells ∧ Below w.heap.size w wq) (fun _ i _ => 8 - (intOf i).toNat)
              case atStart => exact ⟨0, _, by omega, rfl, rfl, HO0.out, HV0.out, HB0.out⟩
              case round =>
                obtain ⟨k, v, hk, rfl, rfl, hown, hV, hbq⟩ := hrel
                by_cases hlt : k < 8
                · have x1 := hbq.cell (p := ⟨gs, k, none⟩) hgs
                  rw [HCS.out k hlt] at x1
                  have x2 := hV.cell (Reg.cell8 _ k hlt)
                  have hq8 : (⟨qa, qb, qc, qd, qe, qf, qg, qh⟩ : Reg).Bd := by rw [HQ.out]; exact rounds_bd HR.out 64
                  obtain ⟨r0, r1⟩ := Reg.at_bd HR.out k
                  obtain ⟨q0, q1⟩ := Reg.at_bd hq8 k
                  have HAt := Lib.hid (addR_at ⟨ra, rb, rc, rd, re, rf, rg, rh⟩ ⟨qa, qb, qc, qd, qe, qf, qg, qh⟩ k hlt)
                  generalize (⟨ra, rb, rc, rd, re, rf, rg, rh⟩ : Reg).at_ k = rk at x1 r0 r1 HAt
                  generalize (⟨qa, qb, qc, qd, qe, qf, qg, qh⟩ : Reg).at_ k = qk at x2 q0 q1 HAt
                  have y1 : IntKind.u32.wrap rk = rk := by rw [IntKind.wrap_u32]; omega
                  have y2 : IntKind.i64.wrap ((rk + qk) % 4294967296) = (rk + qk) % 4294967296 := IntWalk.i64_in _ (by omega)
                  have y3 : IntKind.u32.wrap (rk + qk) = (rk + qk) % 4294967296 := IntKind.wrap_u32 _
                  have hlt' : (k : Int) < 8 := by omega
                  have hsz := hbq.size
                  have hk8 : (k : Int) < 8 := by omega
                  clear a0 a1 b0 b1 cc0 cc1 d0 d1 e0 e1 f0 f1 g0 g1 h0 hh1
                  go_wp2
                  have ne1 : u23.ownBlock ≠ some gs := fun e => by have := (hown.lt gs e).1; omega
                  have ne2 : u23.ownBlock ≠ some _ := Ne.symm (own_ne hown hV (by decide))
                  have lv := hV.lt
                  go_region_held3 (fun w' => w'.cell? ⟨gs, k, none⟩ = some (.int .i64 rk) ∧ w'.cell? ⟨gv, k, none⟩ = some (.int .u32 qk))
                    (first
                      | go_keep
                      | (go_split_ands
                         refine ⟨?_, ?_⟩
                         · (rw [hgrow.cell_far _ (by simp; omega) (Ne.symm ne1)]; assumption)
                         · (rw [hgrow.cell_far _ (by simp; omega) (Ne.symm ne2)]; assumption)))
                    ((refine step_append_lies _ (by rfl) _ _ _ (by rfl) w.heap.size 2 ie _ 1 8 Tryd.underlying42 hie iz0 iz1 iz2 rfl (by omega) u23 k _ (by rfl) ((hown.alloc _).drew)
                        ⟨wr.heap.size, 0, none⟩ 1 1 [.int .i64 ((rk + qk) % 4294967296)] (by rfl) (by rfl) (World.news_of_block (cs := #[.int .i64 ((rk + qk) % 4294967296)]) (t := 2) (fr := (0, 0)) (heap_alloc_new wr _)) (by simp [Value.oneCell'])
                        (by omega) (by unfold maxLen; omega) (by omega) (by simp; omega) (wr.heap.size + 1) (by simp) ?_; intro gg cap' w1 hown1 hgrow hat hlt1))
                  go_wp2
                  have hV1 := ((hV.alloc (.cells #[.int .i64 ((rk + qk) % 4294967296)] 2)).drew).grown hgrow (Ne.symm ne2)
                  have hB1 := (below_drew (hbq.alloc hsz (.cells #[.int .i64 ((rk + qk) % 4294967296)] 2))).grown hgrow (by simp; omega) (fun k e => (hown.lt k e).1)
                  have hr1 := Reg.row_succ (addR ⟨ra, rb, rc, rd, re, rf, rg, rh⟩ ⟨qa, qb, qc, qd, qe, qf, qg, qh⟩) k
                  rw [HAt.out] at hr1
                  exact ⟨⟨k + 1, _, by omega, rfl, by go_num, by rw [hr1]; exact hown1, hV1, hB1⟩, by simp [intOf]; omega⟩
                · obtain rfl : k = 8 := by omega
                  go_wp2
                  go_ret
                  refine ⟨_, rfl, ?_, hbq⟩
                  have := st_of_own hown
                  rw [HQ.out] at this
                  exact this
end Go.Proofs.YtahfpcagblcdmaaDoor
