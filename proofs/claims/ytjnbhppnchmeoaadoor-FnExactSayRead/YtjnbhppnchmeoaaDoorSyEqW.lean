/- markSay, markSayOut, heldSay, heldSayOut; what is read is small. The size that the exact laws reckon of proofs, changes, says. The copies that the exact laws make of proofs, changes, says, and their comparison of two. The comparison of two answers of SayRead. -/
import Derived.Test.YtjnbhppnchmeoaaDoorSyRCW
import Derived.Test.YtjnbhppnchmeoaaDoorChgW
import Derived.Test.YtjnbhppnchmeoaaDoorAuQW
import Derived.Test.YtjnbhppnchmeoaaDoorRdW
namespace Go.Proofs.YtjnbhppnchmeoaaDoor
open Go.RowKit
set_option linter.unusedVariables false
set_option maxRecDepth 1000000

theorem blkC_in {w : World} {base b n c : Nat} {A : Option Addr} {xs : List Value} {L : List CM} (hr : w.ownsRow base 66 3 (.slice A n c) n xs) (ho : CngsO w base L) (h : blkC A L b) : base ≤ b ∧ b < w.heap.size := by
  rcases h with e | ⟨i, hi, e | ⟨i', hi', e⟩⟩
  · exact hr.lt b (by rw [own_blk]; exact e)
  · exact (ho.row i hi).lt b (by rw [own_blk]; exact e)
  · have hm : L[i].M[i'] ∈ inn L := List.mem_flatMap.2 ⟨L[i], List.getElem_mem hi, List.getElem_mem hi'⟩
    exact ((PrfsO.iff.1 ho.own).1 _ hm).lt b (by rw [own_blk]; exact e)
theorem Frm.chg {w w' : World} {S : Nat → Prop} {lo hi : Nat} (h : Frm w w' S) (hs : ∀ b, S b → lo ≤ b ∧ b < hi) : Chg w w' lo hi :=
  ⟨h.os, h.tape, h.output, h.size, fun k hk ho => h.block k hk (fun e => by have := hs k e; omega)⟩
theorem Chs.offC {w w' : World} {l B lo hi : Nat} {A : Option Addr} {L : List Cng} (h : Chs w l B A L) (hc : Chg w w' lo hi) (ho : B ≤ lo) (hB : B ≤ w.heap.size) : Chs w' l B A L :=
  h.of_blk fun k _ hk => hc.block k (by omega) (by omega)
set_option maxHeartbeats 2000000 in
theorem markSay_own (a b d f : Int) (s : ByteArray) (A : Option Addr) (c base bi k : Nat) (L : List CM) (w : World) (hr : w.ownsRow base 66 3 (.slice A L.length c) L.length (cflat (L.map (·.m)))) (ho : CngsO w bi L) (h0 : 1 ≤ k) (h1 : k + wL L ≤ 3999990) :
    Calls Tryd.prog 34 #[.agg #[.int .i64 a, .int .i64 b, .int .i64 d, .int .i64 f, .string s, .slice A L.length c], .int .i64 k] w fun e w' => e = .returned (.int .i64 ((k + wL L : Nat) : Int)) ∧
      w'.ownsRow base 66 3 (.slice A L.length c) L.length (cflat ((mkL k L).map (·.m))) ∧ CngsO w' bi (mkL k L) ∧ Frm w w' (blkC A L) := by
  have hf : Frm w (w.alloc (.cells #[.int .i64 a, .int .i64 b, .int .i64 d, .int .i64 f, .string s, .slice A L.length c] 34)) (blkC A L) := (Frm.refl w _).below ((Below.refl _ w).alloc (Nat.le_refl _) _)
  have MC := Lib.hid (markChangeS_own A c base bi k L _ (hr.alloc (.cells #[.int .i64 a, .int .i64 b, .int .i64 d, .int .i64 f, .string s, .slice A L.length c] 34)) (ho.alloc _) h0 h1)
  go_enter Tryd.func34, Tryd.ntmps34
  go_wp2_with (fail)
  refine MC.out.mono ?_
  rintro e w1 ⟨rfl, r1, o1, f1⟩
  have f2 := hf.then f1 (fun b h => h)
  clear hf f1 MC
  go_wp2
  go_ret
  exact ⟨rfl, r1, o1, f2⟩
set_option maxHeartbeats 2000000 in
theorem markSayOut_own (a b d f cd : Int) (s : ByteArray) (A : Option Addr) (c base bi k : Nat) (L : List CM) (w : World) (hr : w.ownsRow base 66 3 (.slice A L.length c) L.length (cflat (L.map (·.m)))) (ho : CngsO w bi L) (h0 : 1 ≤ k) (h1 : k + wL L ≤ 3999990) :
    Calls Tryd.prog 13 #[.agg #[.int .i64 a, .int .i64 b, .int .i64 d, .int .i64 f, .string s, .slice A L.length c, .int .i64 cd], .int .i64 k] w fun e w' => e = .returned (.int .i64 ((k + wL L : Nat) : Int)) ∧
      w'.ownsRow base 66 3 (.slice A L.length c) L.length (cflat ((mkL k L).map (·.m))) ∧ CngsO w' bi (mkL k L) ∧ Frm w w' (blkC A L) := by
  have hf : Frm w (w.alloc (.cells #[.int .i64 a, .int .i64 b, .int .i64 d, .int .i64 f, .string s, .slice A L.length c, .int .i64 cd] 36)) (blkC A L) := (Frm.refl w _).below ((Below.refl _ w).alloc (Nat.le_refl _) _)
  have MC := Lib.hid (markSay_own a b d f s A c base bi k L _ (hr.alloc (.cells #[.int .i64 a, .int .i64 b, .int .i64 d, .int .i64 f, .string s, .slice A L.length c, .int .i64 cd] 36)) (ho.alloc _) h0 h1)
  go_enter Tryd.func13, Tryd.ntmps13
  go_wp2_with (fail)
  refine MC.out.mono ?_
  rintro e w1 ⟨rfl, r1, o1, f1⟩
  have f2 := hf.then f1 (fun b h => h)
  clear hf f1 MC
  go_wp2
  go_ret
  exact ⟨rfl, r1, o1, f2⟩
set_option maxHeartbeats 2000000 in
theorem heldSay_any (a b d f : Int) (s : ByteArray) (A : Option Addr) (c k : Nat) (L : List CM) (w : World) {lo : Nat} (hF : Chs w lo w.heap.size A ((mkL k L).map (·.m.t))) (h0 : 1 ≤ k) (h1 : k + wL L ≤ 3999990) :
    Calls Tryd.prog 35 #[.agg #[.int .i64 a, .int .i64 b, .int .i64 d, .int .i64 f, .string s, .slice A L.length c], .int .i64 k] w fun e w' => e = .returned (.int .i64 ((k + wL L : Nat) : Int)) ∧ Below w.heap.size w w' := by
  have hb : Below w.heap.size w (w.alloc (.cells #[.int .i64 a, .int .i64 b, .int .i64 d, .int .i64 f, .string s, .slice A L.length c] 34)) := (Below.refl _ w).alloc (Nat.le_refl _) _
  have HC := Lib.hid (heldChangeS_any A c k L _ (hF.on hb) h0 h1)
  have hnn : ¬ (((k + wL L : Nat) : Int) < 0) := by omega
  go_enter Tryd.func35, Tryd.ntmps35
  go_wp2_with (fail)
  refine HC.out.mono ?_
  rintro e w1 ⟨rfl, b1⟩
  have b2 := hb.trans (b1.mono hb.size)
  clear hb b1 HC
  go_wp2
  go_ret
  exact ⟨rfl, b2⟩
set_option maxHeartbeats 2000000 in
theorem heldSayOut_any (a b d f cd : Int) (s : ByteArray) (A : Option Addr) (c k : Nat) (L : List CM) (w : World) {lo : Nat} (hF : Chs w lo w.heap.size A ((mkL k L).map (·.m.t))) (h0 : 1 ≤ k) (h1 : k + wL L ≤ 3999990) :
    Calls Tryd.prog 14 #[.agg #[.int .i64 a, .int .i64 b, .int .i64 d, .int .i64 f, .string s, .slice A L.length c, .int .i64 cd], .int .i64 k] w fun e w' => e = .returned (.int .i64 ((k + wL L : Nat) : Int)) ∧ Below w.heap.size w w' := by
  have hb : Below w.heap.size w (w.alloc (.cells #[.int .i64 a, .int .i64 b, .int .i64 d, .int .i64 f, .string s, .slice A L.length c, .int .i64 cd] 36)) := (Below.refl _ w).alloc (Nat.le_refl _) _
  have HC := Lib.hid (heldSay_any a b d f s A c k L _ (hF.on hb) h0 h1)
  have hnn : ¬ (((k + wL L : Nat) : Int) < 0) := by omega
  go_enter Tryd.func14, Tryd.ntmps14
  go_wp2_with (fail)
  refine HC.out.mono ?_
  rintro e w1 ⟨rfl, b1⟩
  have b2 := hb.trans (b1.mono hb.size)
  clear hb b1 HC
  go_wp2
  go_ret
  exact ⟨rfl, b2⟩
/-- Few, and int64. -/
def Prf.few (p : Prf) : Prop := p.who.length ≤ 4 ∧ p.nums
def Cng.few (c : Cng) : Prop := c.proofs.length ≤ 6 ∧ ∀ p ∈ c.proofs, Prf.few p
theorem rPrf_few (s : ByteArray) (o : Option Nat) : (rPrf s o).1.few := by
  refine ⟨?_, rL_all (rN_in s) _ _⟩
  show (rL (rN s) _ _).1.length ≤ 4
  rw [rL_len]
  have := rM_in s (most := 4) (by decide) (rT s (rN s (rN s o).2).2).2
  omega
theorem rCng_few (s : ByteArray) (o : Option Nat) : (rCng s o).1.few := by
  refine ⟨?_, rL_all (Q := Prf.few) (rPrf_few s) _ _⟩
  show (rL (rPrf s) _ _).1.length ≤ 6
  rw [rL_len]
  have := rM_in s (most := 6) (by decide) (rN s (rN s o).2).2
  omega
theorem syRead_few (s : ByteArray) : (syRead s).1.changes.length ≤ 4 ∧ ∀ c ∈ (syRead s).1.changes, Cng.few c := by
  unfold syRead
  split
  · exact ⟨Nat.zero_le _, fun c h => absurd h (by simp [zeroY])⟩
  · split
    · refine ⟨?_, rL_all (Q := Cng.few) (rCng_few s) _ _⟩
      show (rL (rCng s) _ _).1.length ≤ 4
      rw [rL_len]
      have := rM_in s (most := 4) (by decide) (rT s (rN s (rN s (rN s (rN s (some 0)).2).2).2).2).2
      omega
    · exact ⟨Nat.zero_le _, fun c h => absurd h (by simp [zeroY])⟩
theorem wPs_few : ∀ (M : List PrfA), (∀ m ∈ M, m.t.who.length ≤ 4) → wPs M ≤ 7 * M.length
  | [], _ => Nat.zero_le _
  | m :: M, h => by
    have h1 := wPs_few M (fun x hx => h x (List.mem_cons_of_mem _ hx))
    have h2 := h m List.mem_cons_self
    simp only [wPs, wP, List.length_cons]; omega
theorem wL_few : ∀ (L : List CM), (∀ x ∈ L, wPs x.M ≤ 42) → wL L ≤ 44 * L.length
  | [], _ => Nat.zero_le _
  | x :: L, h => by
    have h1 := wL_few L (fun y hy => h y (List.mem_cons_of_mem _ hy))
    have h2 := h x List.mem_cons_self
    simp only [wL, wC, List.length_cons]; omega
/-- The changes of an answer are few. -/
theorem CngsO.few {w : World} {base : Nat} {L : List CM} {C : List Cng} (ho : CngsO w base L) (ht : (L.map CM.m).map (·.t) = C) (h4 : C.length ≤ 4) (hf : ∀ c ∈ C, Cng.few c) : wL L ≤ 176 ∧ ∀ x ∈ L, ∀ p ∈ x.M, p.t.nums := by
  have hal := (CngsO.iff.1 ho).1
  have hx : ∀ x ∈ L, Cng.few x.m.t := fun x hx => hf _ (by rw [← ht]; exact List.mem_map_of_mem (List.mem_map_of_mem hx))
  have hp : ∀ x ∈ L, ∀ p ∈ x.M, Prf.few p.t := fun x h p hm => (hx x h).2 _ (by rw [← (hal x h).2]; exact List.mem_map_of_mem hm)
  have hl : L.length ≤ 4 := by have : C.length = L.length := by rw [← ht]; simp
                               omega
  refine ⟨?_, fun x h p hm => (hp x h p hm).2⟩
  have := wL_few L (fun x h => by
    have h1 := wPs_few x.M (fun m hm => (hp x h m hm).1)
    have h2 := (hx x h).1
    rw [← (hal x h).2, List.length_map] at h2
    omega)
  omega
theorem mkPs_nums : ∀ (M : List PrfA) (k : Nat), k + wPs M ≤ 3999990 → ∀ p ∈ mkPs k M, p.t.nums
  | [], _, _, p, h => absurd h (by simp [mkPs])
  | m :: M, k, hk, p, h => by
    simp only [wPs, wP] at hk
    rcases List.mem_cons.1 (show p ∈ mkP k m :: mkPs (k + wP m) M from h) with e | e
    · subst e
      intro x hx
      obtain ⟨i, hi, rfl⟩ := List.mem_map.1 (show x ∈ (List.range m.t.who.length).map (fun i => ((k + 3 + i : Nat) : Int)) from hx)
      have := List.mem_range.1 hi
      omega
    · exact mkPs_nums M (k + wP m) (by unfold wP; omega) p e
theorem mkL_nums : ∀ (L : List CM) (k : Nat), k + wL L ≤ 3999990 → ∀ x ∈ mkL k L, ∀ p ∈ x.M, p.t.nums
  | [], _, _, x, h => absurd h (by simp [mkL])
  | c :: L, k, hk, x, h => by
    simp only [wL, wC] at hk
    rcases List.mem_cons.1 (show x ∈ mkC k c :: mkL (k + wC c) L from h) with e | e
    · subst e
      exact mkPs_nums c.M (k + 2) (by omega)
    · exact mkL_nums L (k + wC c) (by unfold wC; omega) x e
end Go.Proofs.YtjnbhppnchmeoaaDoor

namespace Go.Proofs.YtjnbhppnchmeoaaDoor
open Go.RowKit
set_option linter.unusedVariables false
set_option maxRecDepth 1000000
end Go.Proofs.YtjnbhppnchmeoaaDoor

namespace Go.Proofs.YtjnbhppnchmeoaaDoor
open Go.RowKit
set_option linter.unusedVariables false
set_option maxRecDepth 1000000
theorem eqInt64S_rd (A B : Option Addr) (L : List Int) (c d : Nat) (w : World) {l m : Nat} (hA : Ints w l w.heap.size A L) (hB : Ints w m w.heap.size B L) :
    Calls Tryd.prog 129 #[.slice A L.length c, .slice B L.length d] w fun e w' => e = .returned (.bool true) ∧ Below w.heap.size w w' := eqInt64S_same A B L c d w hA.nms hB.nms
set_option maxHeartbeats 2000000 in
theorem eqProof_same (t : Prf) (A B : Option Addr) (c d : Nat) (w : World) {l m : Nat} (hA : Ints w l w.heap.size A t.who) (hB : Ints w m w.heap.size B t.who) :
    Calls Tryd.prog 124 #[prfV t (.slice A t.who.length c), prfV t (.slice B t.who.length d)] w fun e w' => e = .returned (.bool true) ∧ Below w.heap.size w w' := by
  obtain ⟨view, seq, op, L⟩ := t
  simp only at hA hB ⊢
  have hb0 : Below w.heap.size w ((w.alloc (.cells #[.int .i64 view, .int .i64 seq, .string op, .slice A L.length c] 90)).alloc (.cells #[.int .i64 view, .int .i64 seq, .string op, .slice B L.length d] 90)) := ((Below.refl _ w).alloc (Nat.le_refl _) _).alloc (by simp) _
  have HE := Lib.hid (fun W (h : Below w.heap.size w W) => eqInt64S_rd A B L c d W (hA.on h) (hB.on h))
  go_enter Tryd.func124, Tryd.ntmps124
  go_wp2_with (fail)
  refine (HE.out _ hb0).mono ?_
  rintro e w1 ⟨rfl, hb1⟩
  go_wp2
  go_ret
  exact ⟨rfl, hb0.trans (hb1.mono hb0.size)⟩
set_option maxHeartbeats 2000000 in
theorem eqProofS_same (A B : Option Addr) (L : List Prf) (c d : Nat) (w : World) {l m : Nat} (hA : Prs w l w.heap.size A L) (hB : Prs w m w.heap.size B L) :
    Calls Tryd.prog 109 #[.slice A L.length c, .slice B L.length d] w fun e w' => e = .returned (.bool true) ∧ Below w.heap.size w w' := by
  have hn := hA.1
  unfold maxLen at hn
  go_enter Tryd.func109, Tryd.ntmps109
  go_wp2
  go_loopw [5] (fun i wr => ∃ k : Nat, k ≤ L.length ∧ i = .int .i64 k ∧ Below w.heap.size w wr) (fun i _ => L.length - (intOf i).toNat)
  case atStart => exact ⟨0, by omega, rfl, Below.refl _ _⟩
  case round =>
    obtain ⟨k, hk, rfl, hb⟩ := hrel
    by_cases hlt : k < L.length
    · obtain ⟨a, rfl, hab, C, c1, a0, a1, a2, a3, hC⟩ := (hA.on hb).at k hlt
      obtain ⟨b, rfl, hbb, E, e1, b0, b1, b2, b3, hE⟩ := (hB.on hb).at k hlt
      obtain ⟨I, f, hI, g0, gk, gc, ge⟩ := class_grown wr
      have x0 := fun s => kept_cell (gk s) a0
      have y0 := fun s => kept_cell (gk s) b0
      have x1 := fun s => kept_cell (gk s) a1
      have y1 := fun s => kept_cell (gk s) b1
      have x2 := fun s => kept_cell (gk s) a2
      have y2 := fun s => kept_cell (gk s) b2
      have x3 := fun s => kept_cell (gk s) a3
      have y3 := fun s => kept_cell (gk s) b3
      have EQ := Lib.hid (fun s => eqProof_same L[k] C E c1 e1 (f s) (hC.on (gk s)) (hE.on (gk s)))
      have hlt' : (k : Int) < (L.length : Int) := by omega
      clear a0 b0 a1 b1 a2 b2 a3 b3
      go_wp2
      refine wp_region_kept f (by kernel_rfl) (by kernel_rfl) g0 ?_
      repeat (first
        | go_big_quiet_skip
        | (go_big_quiet_want; go_big_quiet_op; first | go_big_quiet_on | (apply Exists.intro; refine ⟨fun s => ?_, ?_⟩; (go_at_call 124; refine (EQ.out _).mono ?_; rintro e w4 ⟨rfl, hb4⟩; exact ⟨rfl, gc _ _ hb4⟩); go_big_quiet_on)))
      refine wpQuiet_nil ?_
      intro w5 h5
      have hb5 := ge _ h5
      go_wp2
      exact ⟨⟨k + 1, by omega, by go_num, hb.trans (hb5.mono hb.size)⟩, by simp [intOf]; omega⟩
    · obtain rfl : k = L.length := by omega
      go_wp2
      go_ret
      exact ⟨rfl, hb⟩
set_option maxHeartbeats 2000000 in
theorem eqChange_same (t : Cng) (A B : Option Addr) (c d : Nat) (w : World) {l m : Nat} (hA : Prs w l w.heap.size A t.proofs) (hB : Prs w m w.heap.size B t.proofs) :
    Calls Tryd.prog 83 #[cngV t (.slice A t.proofs.length c), cngV t (.slice B t.proofs.length d)] w fun e w' => e = .returned (.bool true) ∧ Below w.heap.size w w' := by
  obtain ⟨frm, view, L⟩ := t
  simp only at hA hB ⊢
  have hb0 : Below w.heap.size w ((w.alloc (.cells #[.int .i64 frm, .int .i64 view, .slice A L.length c] 66)).alloc (.cells #[.int .i64 frm, .int .i64 view, .slice B L.length d] 66)) := ((Below.refl _ w).alloc (Nat.le_refl _) _).alloc (by simp) _
  have HE := Lib.hid (fun W (h : Below w.heap.size w W) => eqProofS_same A B L c d W (hA.on h) (hB.on h))
  go_enter Tryd.func83, Tryd.ntmps83
  go_wp2_with (fail)
  refine (HE.out _ hb0).mono ?_
  rintro e w1 ⟨rfl, hb1⟩
  go_wp2
  go_ret
  exact ⟨rfl, hb0.trans (hb1.mono hb0.size)⟩
set_option maxHeartbeats 2000000 in
theorem eqChangeS_same (A B : Option Addr) (L : List Cng) (c d : Nat) (w : World) {l m : Nat} (hA : Chs w l w.heap.size A L) (hB : Chs w m w.heap.size B L) :
    Calls Tryd.prog 59 #[.slice A L.length c, .slice B L.length d] w fun e w' => e = .returned (.bool true) ∧ Below w.heap.size w w' := by
  have hn := hA.1
  unfold maxLen at hn
  go_enter Tryd.func59, Tryd.ntmps59
  go_wp2
  go_loopw [5] (fun i wr => ∃ k : Nat, k ≤ L.length ∧ i = .int .i64 k ∧ Below w.heap.size w wr) (fun i _ => L.length - (intOf i).toNat)
  case atStart => exact ⟨0, by omega, rfl, Below.refl _ _⟩
  case round =>
    obtain ⟨k, hk, rfl, hb⟩ := hrel
    by_cases hlt : k < L.length
    · obtain ⟨a, rfl, hab, C, c1, a0, a1, a2, hC⟩ := (hA.on hb).at k hlt
      obtain ⟨b, rfl, hbb, E, e1, b0, b1, b2, hE⟩ := (hB.on hb).at k hlt
      obtain ⟨I, f, hI, g0, gk, gc, ge⟩ := class_grown wr
      have x0 := fun s => kept_cell (gk s) a0
      have y0 := fun s => kept_cell (gk s) b0
      have x1 := fun s => kept_cell (gk s) a1
      have y1 := fun s => kept_cell (gk s) b1
      have x2 := fun s => kept_cell (gk s) a2
      have y2 := fun s => kept_cell (gk s) b2
      have EQ := Lib.hid (fun s => eqChange_same L[k] C E c1 e1 (f s) (hC.on (gk s)) (hE.on (gk s)))
      have hlt' : (k : Int) < (L.length : Int) := by omega
      clear a0 b0 a1 b1 a2 b2
      go_wp2
      refine wp_region_kept f (by kernel_rfl) (by kernel_rfl) g0 ?_
      repeat (first
        | go_big_quiet_skip
        | (go_big_quiet_want; go_big_quiet_op; first | go_big_quiet_on | (apply Exists.intro; refine ⟨fun s => ?_, ?_⟩; (go_at_call 83; refine (EQ.out _).mono ?_; rintro e w4 ⟨rfl, hb4⟩; exact ⟨rfl, gc _ _ hb4⟩); go_big_quiet_on)))
      refine wpQuiet_nil ?_
      intro w5 h5
      have hb5 := ge _ h5
      go_wp2
      exact ⟨⟨k + 1, by omega, by go_num, hb.trans (hb5.mono hb.size)⟩, by simp [intOf]; omega⟩
    · obtain rfl : k = L.length := by omega
      go_wp2
      go_ret
      exact ⟨rfl, hb⟩
set_option maxHeartbeats 2000000 in
theorem eqSay_same (t : Sy) (A B : Option Addr) (c d : Nat) (w : World) {l m : Nat} (hA : Chs w l w.heap.size A t.changes) (hB : Chs w m w.heap.size B t.changes) :
    Calls Tryd.prog 33 #[syV t (.slice A t.changes.length c), syV t (.slice B t.changes.length d)] w fun e w' => e = .returned (.bool true) ∧ Below w.heap.size w w' := by
  obtain ⟨kind, frm, view, seq, op, L⟩ := t
  simp only at hA hB ⊢
  have hb0 : Below w.heap.size w ((w.alloc (.cells #[.int .i64 kind, .int .i64 frm, .int .i64 view, .int .i64 seq, .string op, .slice A L.length c] 34)).alloc (.cells #[.int .i64 kind, .int .i64 frm, .int .i64 view, .int .i64 seq, .string op, .slice B L.length d] 34)) := ((Below.refl _ w).alloc (Nat.le_refl _) _).alloc (by simp) _
  have HE := Lib.hid (fun W (h : Below w.heap.size w W) => eqChangeS_same A B L c d W (hA.on h) (hB.on h))
  go_enter Tryd.func33, Tryd.ntmps33
  go_wp2_with (fail)
  refine (HE.out _ hb0).mono ?_
  rintro e w1 ⟨rfl, hb1⟩
  go_wp2
  go_ret
  exact ⟨rfl, hb0.trans (hb1.mono hb0.size)⟩
end Go.Proofs.YtjnbhppnchmeoaaDoor

namespace Go.Proofs.YtjnbhppnchmeoaaDoor
open Go.RowKit
set_option linter.unusedVariables false
set_option maxRecDepth 1000000
set_option maxHeartbeats 2000000 in
theorem eqSayOut_same (t : Sy) (cd : Int) (A B : Option Addr) (c d : Nat) (w : World) {l m : Nat} (hA : Chs w l w.heap.size A t.changes) (hB : Chs w m w.heap.size B t.changes) :
    Calls Tryd.prog 12 #[soutV t (.slice A t.changes.length c) cd, soutV t (.slice B t.changes.length d) cd] w fun e w' => e = .returned (.bool true) ∧ Below w.heap.size w w' := by
  have HE := Lib.hid (fun W (h : Below w.heap.size w W) => eqSay_same t A B c d W (hA.on h) (hB.on h))
  obtain ⟨kind, frm, view, seq, op, L⟩ := t
  simp only at hA hB HE
  have h0 := (Blk.fresh w 36 [.int .i64 kind, .int .i64 frm, .int .i64 view, .int .i64 seq, .string op, .slice A L.length c, .int .i64 cd]).alloc (.cells #[.int .i64 kind, .int .i64 frm, .int .i64 view, .int .i64 seq, .string op, .slice B L.length d, .int .i64 cd] 36)
  have h1 := Blk.fresh (w.alloc (.cells #[.int .i64 kind, .int .i64 frm, .int .i64 view, .int .i64 seq, .string op, .slice A L.length c, .int .i64 cd] 36)) 36 [.int .i64 kind, .int .i64 frm, .int .i64 view, .int .i64 seq, .string op, .slice B L.length d, .int .i64 cd]
  have hb0 : Below w.heap.size w ((w.alloc (.cells #[.int .i64 kind, .int .i64 frm, .int .i64 view, .int .i64 seq, .string op, .slice A L.length c, .int .i64 cd] 36)).alloc (.cells #[.int .i64 kind, .int .i64 frm, .int .i64 view, .int .i64 seq, .string op, .slice B L.length d, .int .i64 cd] 36)) := ((Below.refl _ w).alloc (Nat.le_refl _) _).alloc (by simp) _
  simp only [List.toArray, World.size_alloc] at h0 h1
  have k0 := h0.cell (i := 0) rfl
  have k1 := h0.cell (i := 1) rfl
  have k2 := h0.cell (i := 2) rfl
  have k3 := h0.cell (i := 3) rfl
  have k4 := h0.cell (i := 4) rfl
  have k5 := h0.cell (i := 5) rfl
  have j0 := h1.cell (i := 0) rfl
  have j1 := h1.cell (i := 1) rfl
  have j2 := h1.cell (i := 2) rfl
  have j3 := h1.cell (i := 3) rfl
  have j4 := h1.cell (i := 4) rfl
  have j5 := h1.cell (i := 5) rfl
  go_enter Tryd.func12, Tryd.ntmps12
  go_wp2_with (fail)
  clear k0 k1 k2 k3 k4 k5 j0 j1 j2 j3 j4 j5
  refine (HE.out _ hb0).mono ?_
  rintro e w1 ⟨rfl, hb1⟩
  have g0 := (h0.below hb1 h0.lt).cell (i := 6) rfl
  have g1 := (h1.below hb1 h1.lt).cell (i := 6) rfl
  go_wp2
  go_ret
  exact ⟨rfl, hb0.trans (hb1.mono hb0.size)⟩
end Go.Proofs.YtjnbhppnchmeoaaDoor
