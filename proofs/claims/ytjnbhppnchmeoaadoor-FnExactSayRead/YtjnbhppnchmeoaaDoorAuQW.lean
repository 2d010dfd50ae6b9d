/- The marks that the exact laws write into rows. Slices of int64 as the exact laws use them. Proofs, changes and says as the program holds them in memory. Leaders and quorums, as plain mathematics. -/
import Derived.Test.YtjnbhppnchmeoaaDoorRwkW
import Derived.Test.YtjnbhppnchmeoaaDoorRdW
import Derived.WideShapes
import Derived.ChangeSlices
import Derived.Lib.Hide
namespace Go.Proofs.YtjnbhppnchmeoaaDoor
open Go.RowKit
set_option linter.unusedVariables false

/-- The digits of a number; none for 0. -/
def dec (k : Nat) : List UInt8 := if h : k = 0 then [] else dec (k / 10) ++ [(48 + k % 10).toUInt8]
termination_by k
decreasing_by omega
theorem dec_zero : dec 0 = [] := by unfold dec; simp
theorem dec_step {k : Nat} (h : 0 < k) : dec k = dec (k / 10) ++ [(48 + k % 10).toUInt8] := by rw [dec, dif_neg (by omega)]
theorem dec_len : ∀ k, (dec k).length ≤ k := by
  intro k
  induction k using Nat.strongRecOn with
  | ind k ih =>
    by_cases h : k = 0
    · subst h; rw [dec_zero]; simp
    · rw [dec_step (by omega), List.length_append, List.length_singleton]
      have := ih (k / 10) (by omega)
      omega
theorem dec_digit {k : Nat} (h : 0 < k) : ∃ x : UInt8, (x.toNat : Int) = 48 + (k : Int) % 10 ∧ dec k = dec (k / 10) ++ [x] :=
  ⟨(48 + k % 10).toUInt8, by rw [Nat.toUInt8, UInt8.toNat_ofNat']; omega, dec_step h⟩
/-- A mark. -/
def markS (k : Nat) : ByteArray := ⟨(109 :: dec k).toArray⟩
set_option maxHeartbeats 1000000 in
theorem markText_any (k : Nat) (w : World) (h0 : 1 ≤ k) (h1 : k ≤ 4000000) : Calls Tryd.prog 72 #[.int .i64 k] w fun e w' => e = .returned (.string (markS k)) ∧ Below w.heap.size w w' := by
  have h0' : ¬ (k : Int) ≤ 0 := by omega
  have hdk := dec_len k
  go_enter Tryd.func72, Tryd.ntmps72
  go_wp2
  go_loopw [0, 3] (fun i o wr => ∃ (j : Nat) (out : ByteArray), i = .int .i64 j ∧ o = .string out ∧ j ≤ k ∧ dec j ++ out.data.toList = dec k ∧ Below w.heap.size w wr) (fun i _ _ => (intOf i).toNat)
  case atStart => exact ⟨k, _, rfl, rfl, Nat.le_refl _, by simp, Below.refl _ _⟩
  case round =>
    obtain ⟨j, out, rfl, rfl, hj, hd, hb⟩ := hrel
    have hs : out.size ≤ 4000000 := by
      have : (dec j ++ out.data.toList).length = (dec k).length := by rw [hd]
      simp at this
      omega
    by_cases hlt : 0 < j
    · have hlt' : (0 : Int) < (j : Int) := by omega
      obtain ⟨x, hx, hdj⟩ := dec_digit hlt
      have hcv : (convert 118 9 (.slice (some ⟨wr.heap.size, 0, none⟩) 1 1)).run Tryd.prog (wr.alloc (.cells #[.int .u8 (48 + (j : Int) % 10)] 5)) = .ok (.string ⟨[x].toArray⟩) (wr.alloc (.cells #[.int .u8 (48 + (j : Int) % 10)] 5)) := by
        refine own_bytes (base := 0) (n := 1) ?_
        have : Lib.byteCells [x] = [.int .u8 (48 + (j : Int) % 10)] := by simp [Lib.byteCells, hx]
        rw [this]
        exact own_block (l := [.int .u8 (48 + (j : Int) % 10)]) (Nat.zero_le _) (by simp [maxLen]) (heap_alloc_new wr _)
      obtain ⟨sx, hsx⟩ : ∃ sx : ByteArray, (⟨[x].toArray⟩ : ByteArray) = sx := ⟨_, rfl⟩
      have hsx1 : sx.size = 1 := by rw [← hsx]; rfl
      rw [hsx] at hcv
      go_wp2
      refine ⟨⟨j / 10, sx ++ out, by go_num, rfl, by omega, ?_, hb.alloc hb.size _⟩, by simp [intOf]; omega⟩
      rw [← hd, hdj, ← hsx]
      simp
    · obtain rfl : j = 0 := by omega
      simp only [show ((0 : Nat) : Int) = 0 from rfl]
      go_wp2
      go_ret
      rw [dec_zero, List.nil_append] at hd
      refine ⟨retS ?_, hb⟩
      unfold markS
      rw [← hd]
      apply ByteArray.ext
      simp
theorem gr_set {w w' : World} {g i : Nat} (h : w.grownBy w' (some g)) (v : Value) : w.grownBy (w'.setCell ⟨g, i, none⟩ v) (some g) :=
  ⟨h.os, h.tape, h.output, by simpa [World.setCell] using h.size, fun k hk hne => (Below.heap_setCell w' _ v k (fun e => hne (by rw [e]))).trans (h.block k hk hne)⟩
theorem gr_below {w w' w2 : World} {row : Option Nat} (h : w.grownBy w' row) (hb : Below w'.heap.size w' w2) : w.grownBy w2 row :=
  ⟨hb.os.trans h.os, hb.tape.trans h.tape, hb.output.trans h.output, Nat.le_trans h.size hb.size, fun k hk hne => (hb.block k (by have := h.size; omega)).trans (h.block k hk hne)⟩
theorem markS_size (k : Nat) : (markS k).size ≤ k + 1 := by
  have := dec_len k
  unfold markS
  show (109 :: dec k).toArray.size ≤ _
  simp
  exact this
/-- Marked up to j. -/
theorem part_set {α : Type} {M L : List α} {j : Nat} (hM : M.length = L.length) (h : j < L.length) : (M.take j ++ L.drop j).set j (M[j]'(by omega)) = M.take (j + 1) ++ L.drop (j + 1) := by
  rw [List.set_append_right _ _ (by simp; omega), List.length_take, show j - min j M.length = 0 by omega, List.drop_eq_getElem_cons h, List.set_cons_zero, List.take_succ_eq_append_getElem (by omega), List.append_assoc]
  rfl
end Go.Proofs.YtjnbhppnchmeoaaDoor

namespace Go.Proofs.YtjnbhppnchmeoaaDoor
open Go.RowKit Go.ChangeShapes Go.WideShapes
set_option linter.unusedVariables false
set_option maxRecDepth 1000000

/-- The numbers of a slice, below block B. -/
def Nms (w : World) (B : Nat) (A : Option Addr) (L : List Int) : Prop :=
  L.length ≤ maxLen ∧ ∀ i (h : i < L.length), ∃ a, A = some a ∧ a.block < B ∧ w.cell? (a.add i) = some (.int .i64 L[i]) ∧ -9223372036854775808 ≤ L[i] ∧ L[i] ≤ 9223372036854775807
theorem Nms.below {w w' : World} {B C : Nat} {A : Option Addr} {L : List Int} (h : Nms w B A L) (hb : Below C w w') (hC : B ≤ C) : Nms w' B A L :=
  ⟨h.1, fun i hi => by
    obtain ⟨a, e, h1, h2, h3⟩ := h.2 i hi
    exact ⟨a, e, h1, by rw [World.cell?_of_block (a := a.add _) (hb.block _ (by rw [add_blk]; omega))]; exact h2, h3⟩⟩
theorem Nms.mono {w : World} {B B' : Nat} {A : Option Addr} {L : List Int} (h : Nms w B A L) (hb : B ≤ B') : Nms w B' A L :=
  ⟨h.1, fun i hi => by
    obtain ⟨a, e, h1, h2⟩ := h.2 i hi
    exact ⟨a, e, by omega, h2⟩⟩
theorem ints_arg {H : Type} {enc : TypeId × Value → H} {W : World} {r : Reach} {b0 : Nat} {v : Value} {d : DataW H} {p : List MemPlace} (hval : Value.okWide Tryd.prog W r b0 88 v) (h : DataW.Trod enc Tryd.prog W 0 (fun _ => true) true 88 v d p) :
    ∃ A L c, v = .slice A L.length c ∧ Nms W W.heap.size A L := by
  obtain ⟨A, n, c, rfl⟩ := okWide_slice Tryd.underlying88 hval
  obtain ⟨m, hm⟩ := h
  have hm' : DataW.trod enc Tryd.prog W 0 (fun _ => true) true m 88 [.slice A n c] = some (d, p) := hm
  rcases open_ints Tryd.underlying88 Tryd.underlying2 cellsI64 hm' with ⟨h1, _⟩ | ⟨a, len, cap, zs, h1, _, hl, hc, hz, _, hcell, hwf⟩
  · injection h1 with h1 _
    cases h1
    exact ⟨none, [], 0, rfl, by simp [maxLen], fun i h => absurd h (by simp)⟩
  · injection h1 with h1 _
    cases h1
    have hzl : zs.length = c := by simpa using hz
    have htl : (zs.take n).length = n := by simp; omega
    refine ⟨some a, zs.take n, c, by rw [htl], by rw [htl]; omega, fun i hi => ?_⟩
    have hi' : i < zs.length := by rw [htl] at hi; omega
    have hc1 := hcell i hi'
    have hg : zs.getD i 0 = (zs.take n)[i] := by rw [List.getElem_take]; simp [List.getD, hi']
    rw [hg] at hc1
    have hw := wf_i64 (hwf (zs.take n)[i] (List.mem_of_mem_take (List.getElem_mem hi)))
    exact ⟨a, rfl, by have := World.block_lt_of_cell? W _ hc1; rw [add_blk] at this; exact this, hc1, hw.1, hw.2⟩
theorem infoI64n : (Tryd.prog.info? 2).map (fun i => (i.zero, i.size, i.bytes)) = some (some (.int .i64 0), 1, 8) := by kernel_rfl
theorem Rw.nms {w : World} {lo hi n c : Nat} {A : Option Addr} {L : List Int} (h : Rw w lo hi 2 1 (.slice A n c) L.length (L.map (Value.int .i64))) (hf : ∀ x ∈ L, -9223372036854775808 ≤ x ∧ x ≤ 9223372036854775807) : Nms w w.heap.size A L := by
  rcases h.1.2 with ⟨hv, hz⟩ | ⟨g, cap, cur, hv, hb, hg, hl, hm, hs, ht⟩
  · have : L = [] := List.eq_nil_of_length_eq_zero hz
    subst this
    cases hv
    exact ⟨by simp [maxLen], fun i h => absurd h (by simp)⟩
  · cases hv
    refine ⟨by omega, fun i hi => ?_⟩
    have hc := World.ownsRow.cells h.1 (g := g) rfl i (.int .i64 L[i]) (by simp [hi])
    have := hf _ (List.getElem_mem hi)
    exact ⟨⟨g, 0, none⟩, rfl, (Array.getElem?_eq_some_iff.1 hg).1, hc, this.1, this.2⟩

set_option maxHeartbeats 1000000 in
theorem eqInt64S_same (A B : Option Addr) (L : List Int) (c d : Nat) (w : World) (hA : Nms w w.heap.size A L) (hB : Nms w w.heap.size B L) :
    Calls Tryd.prog 129 #[.slice A L.length c, .slice B L.length d] w fun e w' => e = .returned (.bool true) ∧ Below w.heap.size w w' := by
  have hn := hA.1
  unfold maxLen at hn
  go_enter Tryd.func129, Tryd.ntmps129
  go_wp2
  go_loopw [5] (fun i wr => ∃ k : Nat, k ≤ L.length ∧ i = .int .i64 k ∧ Below w.heap.size w wr) (fun i _ => L.length - (intOf i).toNat)
  case atStart => exact ⟨0, by omega, rfl, Below.refl _ _⟩
  case round =>
    obtain ⟨k, hk, rfl, hb⟩ := hrel
    by_cases hlt : k < L.length
    · obtain ⟨a, rfl, hab, a0, _⟩ := (hA.below hb (Nat.le_refl _)).2 k hlt
      obtain ⟨b, rfl, hbb, b0, _⟩ := (hB.below hb (Nat.le_refl _)).2 k hlt
      have hlt' : (k : Int) < (L.length : Int) := by omega
      go_wp2
      go_quiet (fail)
      go_wp2
      exact ⟨⟨k + 1, by omega, by go_num, below_drewN hb _⟩, by simp [intOf]; omega⟩
    · obtain rfl : k = L.length := by omega
      go_wp2
      go_ret
      exact ⟨rfl, hb⟩

set_option maxHeartbeats 2000000 in
theorem markInt64S_some (g n c base k : Nat) (L : List Int) (w : World) (hR : w.ownsRow base 2 1 (.slice (some ⟨g, 0, none⟩) n c) n (L.map (Value.int .i64))) (h0 : 1 ≤ k) (h1 : k + n ≤ 8000000) :
    Calls Tryd.prog 110 #[.slice (some ⟨g, 0, none⟩) n c, .int .i64 k] w fun e w' => e = .returned (.int .i64 ((k + n : Nat) : Int)) ∧ w.grownBy w' (some g) := by
  have hl := hR.1
  rw [List.length_map] at hl
  have hl' : L.length = n := by omega
  clear hl
  go_enter Tryd.func110, Tryd.ntmps110
  go_wp2
  go_loopw [1, 5] (fun q i wr => ∃ (j : Nat) (xs : List Value), j ≤ n ∧ i = .int .i64 j ∧ q = .int .i64 ((k + j : Nat) : Int) ∧ wr.ownsRow base 2 1 (.slice (some ⟨g, 0, none⟩) n c) n xs ∧ w.grownBy wr (some g)) (fun _ i _ => n - (intOf i).toNat)
  case atStart => exact ⟨0, _, by omega, rfl, rfl, hR, World.grownBy.refl _ _⟩
  case round =>
    obtain ⟨j, xs, hj, rfl, rfl, hr, hg⟩ := hrel
    by_cases hlt : j < n
    · have hlt' : (j : Int) < (n : Int) := by omega
      obtain ⟨u1, c1⟩ := row_cell hr (j := j) (by omega)
      have f1 := hr.frozenAt j
      have s1 := (hr.stored j (.int .i64 ((k : Int) + (j : Int)))).1
      have t1 := gr_set hg (i := j) (.int .i64 ((k : Int) + (j : Int)))
      go_wp2
      exact ⟨⟨j + 1, _, by omega, by go_num, by go_num, s1, t1⟩, by simp [intOf]; omega⟩
    · obtain rfl : j = n := by omega
      go_wp2
      go_ret
      exact ⟨rfl, hg⟩
end Go.Proofs.YtjnbhppnchmeoaaDoor

namespace Go.Proofs.YtjnbhppnchmeoaaDoor
open Go.RowKit
set_option linter.unusedVariables false
set_option maxRecDepth 1000000

/-- The numbers of a slice, between block lo and block B. -/
def Ints (w : World) (lo B : Nat) (A : Option Addr) (L : List Int) : Prop :=
  L.length ≤ maxLen ∧ ∀ i (h : i < L.length), ∃ a, A = some a ∧ lo ≤ a.block ∧ a.block < B ∧ w.cell? (a.add i) = some (.int .i64 L[i]) ∧ -9223372036854775808 ≤ L[i] ∧ L[i] ≤ 9223372036854775807
theorem Ints.of_blk {w w' : World} {lo B : Nat} {A : Option Addr} {L : List Int} (h : Ints w lo B A L) (hb : ∀ k, lo ≤ k → k < B → w'.heap[k]? = w.heap[k]?) : Ints w' lo B A L :=
  ⟨h.1, fun i hi => by
    obtain ⟨a, e, h0, h1, h2, h3⟩ := h.2 i hi
    exact ⟨a, e, h0, h1, by rw [World.cell?_of_block (a := a.add _) (hb _ (by rw [add_blk]; exact h0) (by rw [add_blk]; exact h1))]; exact h2, h3⟩⟩
theorem Ints.mono {w : World} {lo lo' B B' : Nat} {A : Option Addr} {L : List Int} (h : Ints w lo B A L) (hl : lo' ≤ lo) (hb : B ≤ B') : Ints w lo' B' A L :=
  ⟨h.1, fun i hi => by
    obtain ⟨a, e, h0, h1, h2⟩ := h.2 i hi
    exact ⟨a, e, by omega, by omega, h2⟩⟩
theorem Ints.nms {w : World} {lo B : Nat} {A : Option Addr} {L : List Int} (h : Ints w lo B A L) : Nms w B A L :=
  ⟨h.1, fun i hi => by
    obtain ⟨a, e, h0, h1, h2⟩ := h.2 i hi
    exact ⟨a, e, h1, h2⟩⟩
theorem Nms.ints {w : World} {B : Nat} {A : Option Addr} {L : List Int} (h : Nms w B A L) : Ints w 0 B A L :=
  ⟨h.1, fun i hi => by
    obtain ⟨a, e, h1, h2⟩ := h.2 i hi
    exact ⟨a, e, Nat.zero_le _, h1, h2⟩⟩
theorem Rw.ints {w : World} {lo hi n c : Nat} {A : Option Addr} {L : List Int} (h : Rw w lo hi 2 1 (.slice A n c) L.length (L.map (Value.int .i64))) (hf : ∀ x ∈ L, -9223372036854775808 ≤ x ∧ x ≤ 9223372036854775807) : Ints w lo w.heap.size A L := by
  rcases h.1.2 with ⟨hv, hz⟩ | ⟨g, cap, cur, hv, hb, hg, hl, hm, hs, ht⟩
  · have : L = [] := List.eq_nil_of_length_eq_zero hz
    subst this
    exact ⟨by simp [maxLen], fun i h => absurd h (by simp)⟩
  · cases hv
    refine ⟨by omega, fun i hi => ?_⟩
    have hc := World.ownsRow.cells h.1 (g := g) rfl i (.int .i64 L[i]) (by simp [hi])
    have := hf _ (List.getElem_mem hi)
    exact ⟨⟨g, 0, none⟩, rfl, hb, (Array.getElem?_eq_some_iff.1 hg).1, hc, this.1, this.2⟩
theorem Ints.below {w w' : World} {lo B C : Nat} {A : Option Addr} {L : List Int} (h : Ints w lo B A L) (hb : Below C w w') (hC : B ≤ C) : Ints w' lo B A L := h.of_blk fun k _ hk => hb.block k (by omega)
theorem Ints.on {w w' : World} {lo : Nat} {A : Option Addr} {L : List Int} (h : Ints w lo w.heap.size A L) (hb : Below w.heap.size w w') : Ints w' lo w'.heap.size A L := (h.below hb (Nat.le_refl _)).mono (Nat.le_refl _) hb.size
theorem Ints.set {w : World} {lo B : Nat} {A : Option Addr} {L : List Int} (h : Ints w lo B A L) {q : Addr} (hq : q.block < lo) (u : Value) : Ints (w.setCell q u) lo B A L :=
  h.of_blk fun k hk _ => Below.heap_setCell w q u k (by omega)
structure Prf where
  view : Int
  seq : Int
  op : ByteArray
  who : List Int
  deriving Inhabited
def Prf.fits (t : Prf) : Prop := (-9223372036854775808 ≤ t.view ∧ t.view ≤ 9223372036854775807) ∧ (-9223372036854775808 ≤ t.seq ∧ t.seq ≤ 9223372036854775807) ∧ t.op.size ≤ maxLen
/-- Of no great size. -/
def Prf.small (t : Prf) : Prop := t.op.size ≤ 1048576 ∧ t.who.length ≤ 1048576
/-- The value, with the slice that it holds. -/
abbrev prfV (t : Prf) (x : Value) : Value := .agg #[.int .i64 t.view, .int .i64 t.seq, .string t.op, x]
/-- Values of a slice, between block lo and block B. -/
def Prs (w : World) (lo B : Nat) (A : Option Addr) (L : List Prf) : Prop :=
  L.length ≤ maxLen ∧ ∀ i (h : i < L.length), ∃ a, A = some a ∧ lo ≤ a.block ∧ a.block < B ∧ ∃ C c, w.cell? (a.add (i * 4)) = some (.int .i64 L[i].view) ∧ w.cell? (a.add (i * 4 + 1)) = some (.int .i64 L[i].seq) ∧ w.cell? (a.add (i * 4 + 2)) = some (.string L[i].op) ∧ w.cell? (a.add (i * 4 + 3)) = some (.slice C L[i].who.length c) ∧ Ints w lo B C L[i].who
theorem Prs.of_blk {w w' : World} {lo B : Nat} {A : Option Addr} {L : List Prf} (h : Prs w lo B A L) (hb : ∀ k, lo ≤ k → k < B → w'.heap[k]? = w.heap[k]?) : Prs w' lo B A L :=
  ⟨h.1, fun i hi => by
    obtain ⟨a, e, h0, h1, C, c, c0, c1, c2, c3, h3⟩ := h.2 i hi
    refine ⟨a, e, h0, h1, C, c, ?_, ?_, ?_, ?_, h3.of_blk hb⟩
    · rw [World.cell?_of_block (a := a.add _) (hb _ (by rw [add_blk]; exact h0) (by rw [add_blk]; exact h1))]; exact c0
    · rw [World.cell?_of_block (a := a.add _) (hb _ (by rw [add_blk]; exact h0) (by rw [add_blk]; exact h1))]; exact c1
    · rw [World.cell?_of_block (a := a.add _) (hb _ (by rw [add_blk]; exact h0) (by rw [add_blk]; exact h1))]; exact c2
    · rw [World.cell?_of_block (a := a.add _) (hb _ (by rw [add_blk]; exact h0) (by rw [add_blk]; exact h1))]; exact c3⟩
theorem Prs.mono {w : World} {lo lo' B B' : Nat} {A : Option Addr} {L : List Prf} (h : Prs w lo B A L) (hl : lo' ≤ lo) (hb : B ≤ B') : Prs w lo' B' A L :=
  ⟨h.1, fun i hi => by
    obtain ⟨a, e, h0, h1, C, c, c0, c1, c2, c3, h3⟩ := h.2 i hi
    exact ⟨a, e, by omega, by omega, C, c, c0, c1, c2, c3, h3.mono hl hb⟩⟩
theorem Prs.at {w : World} {lo B : Nat} {A : Option Addr} {L : List Prf} (h : Prs w lo B A L) (i : Nat) (hi : i < L.length) :
    ∃ a, A = some a ∧ a.block < B ∧ ∃ C c, w.cell? (a.add (i * 4)) = some (.int .i64 L[i].view) ∧ w.cell? ⟨(a.add (i * 4)).block, (a.add (i * 4)).off + 1, none⟩ = some (.int .i64 L[i].seq) ∧ w.cell? ⟨(a.add (i * 4)).block, (a.add (i * 4)).off + 2, none⟩ = some (.string L[i].op) ∧ w.cell? ⟨(a.add (i * 4)).block, (a.add (i * 4)).off + 3, none⟩ = some (.slice C L[i].who.length c) ∧ Ints w lo B C L[i].who := by
  obtain ⟨a, e, h0, h1, C, c, c0, c1, c2, c3, h3⟩ := h.2 i hi
  exact ⟨a, e, h1, C, c, c0, by rw [add_far]; exact c1, by rw [add_far]; exact c2, by rw [add_far]; exact c3, h3⟩
theorem Prs.below {w w' : World} {lo B C : Nat} {A : Option Addr} {L : List Prf} (h : Prs w lo B A L) (hb : Below C w w') (hC : B ≤ C) : Prs w' lo B A L := h.of_blk fun k _ hk => hb.block k (by omega)
theorem Prs.on {w w' : World} {lo : Nat} {A : Option Addr} {L : List Prf} (h : Prs w lo w.heap.size A L) (hb : Below w.heap.size w w') : Prs w' lo w'.heap.size A L := (h.below hb (Nat.le_refl _)).mono (Nat.le_refl _) hb.size
theorem Prs.set {w : World} {lo B : Nat} {A : Option Addr} {L : List Prf} (h : Prs w lo B A L) {q : Addr} (hq : q.block < lo) (u : Value) : Prs (w.setCell q u) lo B A L :=
  h.of_blk fun k hk _ => Below.heap_setCell w q u k (by omega)
/-- With the slice. -/
structure PrfA where
  t : Prf
  A : Option Addr
  c : Nat
  deriving Inhabited
def PrfA.cells (m : PrfA) : List Value := [.int .i64 m.t.view, .int .i64 m.t.seq, .string m.t.op, .slice m.A m.t.who.length m.c]
def pflat (L : List PrfA) : List Value := L.flatMap PrfA.cells
theorem pflat_cons (f : PrfA) (L : List PrfA) : pflat (f :: L) = .int .i64 f.t.view :: .int .i64 f.t.seq :: .string f.t.op :: .slice f.A f.t.who.length f.c :: pflat L := rfl
theorem pflat_append (L M : List PrfA) : pflat (L ++ M) = pflat L ++ pflat M := by simp [pflat]
theorem pflat_len (L : List PrfA) : (pflat L).length = L.length * 4 := by
  induction L with
  | nil => rfl
  | cons f L ih => rw [pflat_cons]; simp only [List.length_cons, ih]; omega
theorem pflat_get (L : List PrfA) : ∀ (i : Nat) (hi : i < L.length) (r : Nat), r < 4 → (pflat L)[i * 4 + r]? = L[i].cells[r]? := by
  induction L with
  | nil => intro i hi; simp at hi
  | cons f L ih =>
    intro i hi r hr
    rw [pflat_cons]
    cases i with
    | zero =>
      match r, hr with
      | 0, _ => rfl
      | 1, _ => rfl
      | 2, _ => rfl
      | 3, _ => rfl
    | succ i =>
      rw [show (i + 1) * 4 + r = (i * 4 + r) + 1 + 1 + 1 + 1 by omega]
      simp only [List.getElem?_cons_succ, List.getElem_cons_succ]
      exact ih i (by simpa using hi) r hr
theorem pflat_set (f : PrfA) : ∀ (L : List PrfA) (i : Nat), (((((pflat L).set (i * 4) (.int .i64 f.t.view)).set (i * 4 + 1) (.int .i64 f.t.seq)).set (i * 4 + 2) (.string f.t.op)).set (i * 4 + 3) (.slice f.A f.t.who.length f.c)) = pflat (L.set i f) := by
  intro L
  induction L with
  | nil => intro i; simp [pflat]
  | cons g L ih =>
    intro i
    cases i with
    | zero => rfl
    | succ i =>
      rw [pflat_cons, show (i + 1) * 4 = i * 4 + 1 + 1 + 1 + 1 by omega]
      simp only [List.set_cons_succ]
      rw [pflat_cons, ← ih i]
def zeroPrf : PrfA := ⟨⟨0, 0, ⟨#[]⟩, []⟩, none, 0⟩
theorem pflat_made (n : Nat) : (madeCells #[.int .i64 0, .int .i64 0, .string ⟨#[]⟩, .slice none 0 0] (n * 4)).toList = pflat (List.replicate n zeroPrf) := by
  apply List.ext_getElem?
  intro j
  by_cases hj : j < n * 4
  · have h := pflat_get (List.replicate n zeroPrf) (j / 4) (by simp; omega) (j % 4) (by omega)
    rw [show j / 4 * 4 + j % 4 = j by omega] at h
    rw [h]
    have : j % 4 = 0 ∨ j % 4 = 1 ∨ j % 4 = 2 ∨ j % 4 = 3 := by omega
    rcases this with e | e | e | e <;> simp [madeCells, hj, e, zeroPrf, PrfA.cells]
  · rw [List.getElem?_eq_none (l := pflat _) (by rw [pflat_len]; simp; omega)]
    simp [madeCells]
    omega
theorem infoPrf : (Tryd.prog.info? 90).map (fun i => (i.zero, i.size, i.bytes)) = some (some (.agg #[.int .i64 0, .int .i64 0, .string ⟨#[]⟩, .slice none 0 0]), 4, 56) := by kernel_rfl
/-- The cells of one of an owned row, as a store asks for them. -/
theorem row_p {w : World} {base g n c : Nat} {M : List PrfA} (h : w.ownsRow base 90 4 (.slice (some ⟨g, 0, none⟩) n c) n (pflat M)) {k : Nat} (hk : k < M.length) :
    w.cell? ⟨g, k * 4, none⟩ = some (.int .i64 M[k].t.view) ∧ w.cell? ⟨g, k * 4 + 1, none⟩ = some (.int .i64 M[k].t.seq) ∧ w.cell? ⟨g, k * 4 + 2, none⟩ = some (.string M[k].t.op) ∧ w.cell? ⟨g, k * 4 + 3, none⟩ = some (.slice M[k].A M[k].t.who.length M[k].c) ∧
      w.frozen? ⟨g, k * 4, none⟩ = false ∧ w.frozen? ⟨g, k * 4 + 1, none⟩ = false ∧ w.frozen? ⟨g, k * 4 + 2, none⟩ = false ∧ w.frozen? ⟨g, k * 4 + 3, none⟩ = false := by
  have hl := h.1
  rw [pflat_len] at hl
  refine ⟨?_, ?_, ?_, ?_, h.frozenAt _, h.frozenAt _, h.frozenAt _, h.frozenAt _⟩
  · rw [h.cellAt _ (by omega), show k * 4 = k * 4 + 0 from rfl, pflat_get M k hk 0 (by omega)]; rfl
  · rw [h.cellAt _ (by omega), pflat_get M k hk 1 (by omega)]; rfl
  · rw [h.cellAt _ (by omega), pflat_get M k hk 2 (by omega)]; rfl
  · rw [h.cellAt _ (by omega), pflat_get M k hk 3 (by omega)]; rfl
theorem row_pput {w : World} {base g n c : Nat} {M : List PrfA} (h : w.ownsRow base 90 4 (.slice (some ⟨g, 0, none⟩) n c) n (pflat M)) (k : Nat) (f : PrfA) :
    ((((w.setCell ⟨g, k * 4, none⟩ (.int .i64 f.t.view)).setCell ⟨g, k * 4 + 1, none⟩ (.int .i64 f.t.seq)).setCell ⟨g, k * 4 + 2, none⟩ (.string f.t.op)).setCell ⟨g, k * 4 + 3, none⟩ (.slice f.A f.t.who.length f.c)).ownsRow base 90 4 (.slice (some ⟨g, 0, none⟩) n c) n (pflat (M.set k f)) := by
  have h1 := (h.stored (k * 4) (.int .i64 f.t.view)).1
  have h2 := (h1.stored (k * 4 + 1) (.int .i64 f.t.seq)).1
  have h3 := (h2.stored (k * 4 + 2) (.string f.t.op)).1
  have h4 := (h3.stored (k * 4 + 3) (.slice f.A f.t.who.length f.c)).1
  rw [pflat_set] at h4
  exact h4
/-- What the values of a row hold lies between lo and B. -/
def PrfAs (w : World) (lo B : Nat) (M : List PrfA) : Prop := ∀ i (h : i < M.length), Ints w lo B M[i].A M[i].t.who
theorem PrfAs.on {w w' : World} {lo : Nat} {M : List PrfA} (h : PrfAs w lo w.heap.size M) (hb : Below w.heap.size w w') : PrfAs w' lo w'.heap.size M := fun i hi => (h i hi).on hb
theorem PrfAs.set {w : World} {lo B : Nat} {M : List PrfA} (h : PrfAs w lo B M) {q : Addr} (hq : q.block < lo) (u : Value) : PrfAs (w.setCell q u) lo B M := fun i hi => (h i hi).set hq u
theorem PrfAs.snoc {w : World} {lo B : Nat} {M : List PrfA} (h : PrfAs w lo B M) {m : PrfA} (hm : Ints w lo B m.A m.t.who) : PrfAs w lo B (M ++ [m]) := fun i hi => by
  by_cases e : i < M.length
  · rw [List.getElem_append_left e]; exact h i e
  · have : i = M.length := by simp at hi; omega
    subst this
    rw [List.getElem_append_right (Nat.le_refl _)]
    simpa using hm
theorem PrfAs.rd {w : World} {base lo B n c : Nat} {A : Option Addr} {M : List PrfA} (h : w.ownsRow base 90 4 (.slice A n c) n (pflat M)) (hM : M.length = n) (hs : PrfAs w lo B M) (h0 : base ≤ lo) (h1 : B ≤ w.heap.size) : Prs w base w.heap.size A (M.map (·.t)) := by
  rcases h.2 with ⟨hv, hz⟩ | ⟨g, cap, cur, hv, hb, hg, hl', hm, hs', ht⟩
  · have : M = [] := List.eq_nil_of_length_eq_zero (by omega)
    subst this
    exact ⟨by simp [maxLen], fun i h => absurd h (by simp)⟩
  · have hv' := hv
    injection hv with e1 e2 e3
    subst e1
    refine ⟨by simp; omega, fun i hi => ?_⟩
    have hi' : i < M.length := by simpa using hi
    have hc := World.ownsRow.cells h (g := g) (by rw [hv']; rfl)
    have k0 := hc (i * 4 + 0) _ (by rw [pflat_get M i hi' 0 (by omega)]; rfl)
    have k1 := hc (i * 4 + 1) _ (by rw [pflat_get M i hi' 1 (by omega)]; rfl)
    have k2 := hc (i * 4 + 2) _ (by rw [pflat_get M i hi' 2 (by omega)]; rfl)
    have k3 := hc (i * 4 + 3) _ (by rw [pflat_get M i hi' 3 (by omega)]; rfl)
    simp only [List.getElem_map]
    exact ⟨⟨g, 0, none⟩, rfl, hb, (Array.getElem?_eq_some_iff.1 hg).1, _, _, k0, k1, k2, k3, (hs i hi').mono h0 h1⟩
structure Cng where
  frm : Int
  view : Int
  proofs : List Prf
  deriving Inhabited
def Cng.fits (t : Cng) : Prop := (-9223372036854775808 ≤ t.frm ∧ t.frm ≤ 9223372036854775807) ∧ (-9223372036854775808 ≤ t.view ∧ t.view ≤ 9223372036854775807) ∧ ∀ x ∈ t.proofs, x.fits
/-- Of no great size. -/
def Cng.small (t : Cng) : Prop := t.proofs.length ≤ 1048576 ∧ ∀ i (h : i < t.proofs.length), t.proofs[i].small
/-- The value, with the slice that it holds. -/
abbrev cngV (t : Cng) (x : Value) : Value := .agg #[.int .i64 t.frm, .int .i64 t.view, x]
/-- Values of a slice, between block lo and block B. -/
def Chs (w : World) (lo B : Nat) (A : Option Addr) (L : List Cng) : Prop :=
  L.length ≤ maxLen ∧ ∀ i (h : i < L.length), ∃ a, A = some a ∧ lo ≤ a.block ∧ a.block < B ∧ ∃ C c, w.cell? (a.add (i * 3)) = some (.int .i64 L[i].frm) ∧ w.cell? (a.add (i * 3 + 1)) = some (.int .i64 L[i].view) ∧ w.cell? (a.add (i * 3 + 2)) = some (.slice C L[i].proofs.length c) ∧ Prs w lo B C L[i].proofs
theorem Chs.of_blk {w w' : World} {lo B : Nat} {A : Option Addr} {L : List Cng} (h : Chs w lo B A L) (hb : ∀ k, lo ≤ k → k < B → w'.heap[k]? = w.heap[k]?) : Chs w' lo B A L :=
  ⟨h.1, fun i hi => by
    obtain ⟨a, e, h0, h1, C, c, c0, c1, c2, h3⟩ := h.2 i hi
    refine ⟨a, e, h0, h1, C, c, ?_, ?_, ?_, h3.of_blk hb⟩
    · rw [World.cell?_of_block (a := a.add _) (hb _ (by rw [add_blk]; exact h0) (by rw [add_blk]; exact h1))]; exact c0
    · rw [World.cell?_of_block (a := a.add _) (hb _ (by rw [add_blk]; exact h0) (by rw [add_blk]; exact h1))]; exact c1
    · rw [World.cell?_of_block (a := a.add _) (hb _ (by rw [add_blk]; exact h0) (by rw [add_blk]; exact h1))]; exact c2⟩
theorem Chs.mono {w : World} {lo lo' B B' : Nat} {A : Option Addr} {L : List Cng} (h : Chs w lo B A L) (hl : lo' ≤ lo) (hb : B ≤ B') : Chs w lo' B' A L :=
  ⟨h.1, fun i hi => by
    obtain ⟨a, e, h0, h1, C, c, c0, c1, c2, h3⟩ := h.2 i hi
    exact ⟨a, e, by omega, by omega, C, c, c0, c1, c2, h3.mono hl hb⟩⟩
theorem Chs.at {w : World} {lo B : Nat} {A : Option Addr} {L : List Cng} (h : Chs w lo B A L) (i : Nat) (hi : i < L.length) :
    ∃ a, A = some a ∧ a.block < B ∧ ∃ C c, w.cell? (a.add (i * 3)) = some (.int .i64 L[i].frm) ∧ w.cell? ⟨(a.add (i * 3)).block, (a.add (i * 3)).off + 1, none⟩ = some (.int .i64 L[i].view) ∧ w.cell? ⟨(a.add (i * 3)).block, (a.add (i * 3)).off + 2, none⟩ = some (.slice C L[i].proofs.length c) ∧ Prs w lo B C L[i].proofs := by
  obtain ⟨a, e, h0, h1, C, c, c0, c1, c2, h3⟩ := h.2 i hi
  exact ⟨a, e, h1, C, c, c0, by rw [add_far]; exact c1, by rw [add_far]; exact c2, h3⟩
theorem Chs.below {w w' : World} {lo B C : Nat} {A : Option Addr} {L : List Cng} (h : Chs w lo B A L) (hb : Below C w w') (hC : B ≤ C) : Chs w' lo B A L := h.of_blk fun k _ hk => hb.block k (by omega)
theorem Chs.on {w w' : World} {lo : Nat} {A : Option Addr} {L : List Cng} (h : Chs w lo w.heap.size A L) (hb : Below w.heap.size w w') : Chs w' lo w'.heap.size A L := (h.below hb (Nat.le_refl _)).mono (Nat.le_refl _) hb.size
theorem Chs.set {w : World} {lo B : Nat} {A : Option Addr} {L : List Cng} (h : Chs w lo B A L) {q : Addr} (hq : q.block < lo) (u : Value) : Chs (w.setCell q u) lo B A L :=
  h.of_blk fun k hk _ => Below.heap_setCell w q u k (by omega)
/-- With the slice. -/
structure CngA where
  t : Cng
  A : Option Addr
  c : Nat
  deriving Inhabited
def CngA.cells (m : CngA) : List Value := [.int .i64 m.t.frm, .int .i64 m.t.view, .slice m.A m.t.proofs.length m.c]
def cflat (L : List CngA) : List Value := L.flatMap CngA.cells
theorem cflat_cons (f : CngA) (L : List CngA) : cflat (f :: L) = .int .i64 f.t.frm :: .int .i64 f.t.view :: .slice f.A f.t.proofs.length f.c :: cflat L := rfl
theorem cflat_append (L M : List CngA) : cflat (L ++ M) = cflat L ++ cflat M := by simp [cflat]
theorem cflat_len (L : List CngA) : (cflat L).length = L.length * 3 := by
  induction L with
  | nil => rfl
  | cons f L ih => rw [cflat_cons]; simp only [List.length_cons, ih]; omega
theorem cflat_get (L : List CngA) : ∀ (i : Nat) (hi : i < L.length) (r : Nat), r < 3 → (cflat L)[i * 3 + r]? = L[i].cells[r]? := by
  induction L with
  | nil => intro i hi; simp at hi
  | cons f L ih =>
    intro i hi r hr
    rw [cflat_cons]
    cases i with
    | zero =>
      match r, hr with
      | 0, _ => rfl
      | 1, _ => rfl
      | 2, _ => rfl
    | succ i =>
      rw [show (i + 1) * 3 + r = (i * 3 + r) + 1 + 1 + 1 by omega]
      simp only [List.getElem?_cons_succ, List.getElem_cons_succ]
      exact ih i (by simpa using hi) r hr
theorem cflat_set (f : CngA) : ∀ (L : List CngA) (i : Nat), ((((cflat L).set (i * 3) (.int .i64 f.t.frm)).set (i * 3 + 1) (.int .i64 f.t.view)).set (i * 3 + 2) (.slice f.A f.t.proofs.length f.c)) = cflat (L.set i f) := by
  intro L
  induction L with
  | nil => intro i; simp [cflat]
  | cons g L ih =>
    intro i
    cases i with
    | zero => rfl
    | succ i =>
      rw [cflat_cons, show (i + 1) * 3 = i * 3 + 1 + 1 + 1 by omega]
      simp only [List.set_cons_succ]
      rw [cflat_cons, ← ih i]
def zeroCng : CngA := ⟨⟨0, 0, []⟩, none, 0⟩
theorem cflat_made (n : Nat) : (madeCells #[.int .i64 0, .int .i64 0, .slice none 0 0] (n * 3)).toList = cflat (List.replicate n zeroCng) := by
  apply List.ext_getElem?
  intro j
  by_cases hj : j < n * 3
  · have h := cflat_get (List.replicate n zeroCng) (j / 3) (by simp; omega) (j % 3) (by omega)
    rw [show j / 3 * 3 + j % 3 = j by omega] at h
    rw [h]
    have : j % 3 = 0 ∨ j % 3 = 1 ∨ j % 3 = 2 := by omega
    rcases this with e | e | e <;> simp [madeCells, hj, e, zeroCng, CngA.cells]
  · rw [List.getElem?_eq_none (l := cflat _) (by rw [cflat_len]; simp; omega)]
    simp [madeCells]
    omega
theorem infoCng : (Tryd.prog.info? 66).map (fun i => (i.zero, i.size, i.bytes)) = some (some (.agg #[.int .i64 0, .int .i64 0, .slice none 0 0]), 3, 40) := by kernel_rfl
/-- The cells of one of an owned row, as a store asks for them. -/
theorem row_c {w : World} {base g n c : Nat} {M : List CngA} (h : w.ownsRow base 66 3 (.slice (some ⟨g, 0, none⟩) n c) n (cflat M)) {k : Nat} (hk : k < M.length) :
    w.cell? ⟨g, k * 3, none⟩ = some (.int .i64 M[k].t.frm) ∧ w.cell? ⟨g, k * 3 + 1, none⟩ = some (.int .i64 M[k].t.view) ∧ w.cell? ⟨g, k * 3 + 2, none⟩ = some (.slice M[k].A M[k].t.proofs.length M[k].c) ∧
      w.frozen? ⟨g, k * 3, none⟩ = false ∧ w.frozen? ⟨g, k * 3 + 1, none⟩ = false ∧ w.frozen? ⟨g, k * 3 + 2, none⟩ = false := by
  have hl := h.1
  rw [cflat_len] at hl
  refine ⟨?_, ?_, ?_, h.frozenAt _, h.frozenAt _, h.frozenAt _⟩
  · rw [h.cellAt _ (by omega), show k * 3 = k * 3 + 0 from rfl, cflat_get M k hk 0 (by omega)]; rfl
  · rw [h.cellAt _ (by omega), cflat_get M k hk 1 (by omega)]; rfl
  · rw [h.cellAt _ (by omega), cflat_get M k hk 2 (by omega)]; rfl
theorem row_cput {w : World} {base g n c : Nat} {M : List CngA} (h : w.ownsRow base 66 3 (.slice (some ⟨g, 0, none⟩) n c) n (cflat M)) (k : Nat) (f : CngA) :
    (((w.setCell ⟨g, k * 3, none⟩ (.int .i64 f.t.frm)).setCell ⟨g, k * 3 + 1, none⟩ (.int .i64 f.t.view)).setCell ⟨g, k * 3 + 2, none⟩ (.slice f.A f.t.proofs.length f.c)).ownsRow base 66 3 (.slice (some ⟨g, 0, none⟩) n c) n (cflat (M.set k f)) := by
  have h1 := (h.stored (k * 3) (.int .i64 f.t.frm)).1
  have h2 := (h1.stored (k * 3 + 1) (.int .i64 f.t.view)).1
  have h3 := (h2.stored (k * 3 + 2) (.slice f.A f.t.proofs.length f.c)).1
  rw [cflat_set] at h3
  exact h3
/-- What the values of a row hold lies between lo and B. -/
def CngAs (w : World) (lo B : Nat) (M : List CngA) : Prop := ∀ i (h : i < M.length), Prs w lo B M[i].A M[i].t.proofs
theorem CngAs.on {w w' : World} {lo : Nat} {M : List CngA} (h : CngAs w lo w.heap.size M) (hb : Below w.heap.size w w') : CngAs w' lo w'.heap.size M := fun i hi => (h i hi).on hb
theorem CngAs.set {w : World} {lo B : Nat} {M : List CngA} (h : CngAs w lo B M) {q : Addr} (hq : q.block < lo) (u : Value) : CngAs (w.setCell q u) lo B M := fun i hi => (h i hi).set hq u
theorem CngAs.snoc {w : World} {lo B : Nat} {M : List CngA} (h : CngAs w lo B M) {m : CngA} (hm : Prs w lo B m.A m.t.proofs) : CngAs w lo B (M ++ [m]) := fun i hi => by
  by_cases e : i < M.length
  · rw [List.getElem_append_left e]; exact h i e
  · have : i = M.length := by simp at hi; omega
    subst this
    rw [List.getElem_append_right (Nat.le_refl _)]
    simpa using hm
theorem CngAs.rd {w : World} {base lo B n c : Nat} {A : Option Addr} {M : List CngA} (h : w.ownsRow base 66 3 (.slice A n c) n (cflat M)) (hM : M.length = n) (hs : CngAs w lo B M) (h0 : base ≤ lo) (h1 : B ≤ w.heap.size) : Chs w base w.heap.size A (M.map (·.t)) := by
  rcases h.2 with ⟨hv, hz⟩ | ⟨g, cap, cur, hv, hb, hg, hl', hm, hs', ht⟩
  · have : M = [] := List.eq_nil_of_length_eq_zero (by omega)
    subst this
    exact ⟨by simp [maxLen], fun i h => absurd h (by simp)⟩
  · have hv' := hv
    injection hv with e1 e2 e3
    subst e1
    refine ⟨by simp; omega, fun i hi => ?_⟩
    have hi' : i < M.length := by simpa using hi
    have hc := World.ownsRow.cells h (g := g) (by rw [hv']; rfl)
    have k0 := hc (i * 3 + 0) _ (by rw [cflat_get M i hi' 0 (by omega)]; rfl)
    have k1 := hc (i * 3 + 1) _ (by rw [cflat_get M i hi' 1 (by omega)]; rfl)
    have k2 := hc (i * 3 + 2) _ (by rw [cflat_get M i hi' 2 (by omega)]; rfl)
    simp only [List.getElem_map]
    exact ⟨⟨g, 0, none⟩, rfl, hb, (Array.getElem?_eq_some_iff.1 hg).1, _, _, k0, k1, k2, (hs i hi').mono h0 h1⟩
structure Sy where
  kind : Int
  frm : Int
  view : Int
  seq : Int
  op : ByteArray
  changes : List Cng
  deriving Inhabited
def Sy.fits (t : Sy) : Prop := (-9223372036854775808 ≤ t.kind ∧ t.kind ≤ 9223372036854775807) ∧ (-9223372036854775808 ≤ t.frm ∧ t.frm ≤ 9223372036854775807) ∧ (-9223372036854775808 ≤ t.view ∧ t.view ≤ 9223372036854775807) ∧ (-9223372036854775808 ≤ t.seq ∧ t.seq ≤ 9223372036854775807) ∧ t.op.size ≤ maxLen ∧ ∀ x ∈ t.changes, x.fits
/-- Of no great size. -/
def Sy.small (t : Sy) : Prop := t.op.size ≤ 1048576 ∧ t.changes.length ≤ 1048576 ∧ ∀ i (h : i < t.changes.length), t.changes[i].small
/-- The value, with the slice that it holds. -/
abbrev syV (t : Sy) (x : Value) : Value := .agg #[.int .i64 t.kind, .int .i64 t.frm, .int .i64 t.view, .int .i64 t.seq, .string t.op, x]
theorem sput_mid {α : Type} (M : List α) (z m : α) {n k : Nat} (hM : M.length = k) (hk : k < n) : (M ++ List.replicate (n - k) z).set k m = (M ++ [m]) ++ List.replicate (n - (k + 1)) z := by
  subst hM
  rw [show n - M.length = (n - (M.length + 1)) + 1 by omega, List.replicate_succ, List.set_append_right _ _ (Nat.le_refl _), Nat.sub_self, List.set_cons_zero, List.append_assoc]
  rfl
theorem below_bx (w : World) (o : Obj) : Below w.heap.size w (w.alloc o) := (Below.refl _ _).alloc (Nat.le_refl _) _
end Go.Proofs.YtjnbhppnchmeoaaDoor

namespace Go.Proofs.YtjnbhppnchmeoaaDoor
open Go.RowKit
set_option linter.unusedVariables false

/-- Do the numbers rise from one above last, all of replicas? -/
def qr (last : Int) : List Int → Bool
  | [] => true
  | r :: t => decide (last < r ∧ 0 ≤ r ∧ r ≤ 3) && qr r t
/-- What QuorumRight answers. -/
def quorum (L : List Int) : Bool := qr (-1) L && decide (3 ≤ L.length)
theorem qr_end {L : List Int} {k : Nat} {last : Int} (h : L.length ≤ k) : qr last (L.drop k) = true := by rw [List.drop_eq_nil_of_le h]; rfl
theorem qr_bad {L : List Int} {k : Nat} {last : Int} (h : k < L.length) (hb : ¬ (last < L[k] ∧ 0 ≤ L[k] ∧ L[k] ≤ 3)) : qr last (L.drop k) = false := by
  rw [List.drop_eq_getElem_cons h]; unfold qr; rw [decide_eq_false hb]; rfl
theorem qr_next {L : List Int} {k : Nat} {last : Int} (h : k < L.length) (hb : last < L[k] ∧ 0 ≤ L[k] ∧ L[k] ≤ 3) : qr last (L.drop k) = qr L[k] (L.drop (k + 1)) := by
  rw [List.drop_eq_getElem_cons h]; conv => lhs; unfold qr
  rw [decide_eq_true hb, Bool.true_and]
/-- The quorums. -/
def five : List (List Int) := [[0, 1, 2], [0, 1, 3], [0, 2, 3], [1, 2, 3], [0, 1, 2, 3]]
theorem quorum_five {L : List Int} (h : quorum L = true) : L ∈ five := by
  unfold quorum at h
  rw [Bool.and_eq_true, decide_eq_true_eq] at h
  obtain ⟨h, hl⟩ := h
  match L, hl with
  | [a, b, c], _ =>
    simp only [qr, Bool.and_eq_true, decide_eq_true_eq, and_true] at h
    obtain ⟨h1, h2, h3⟩ := h
    rcases (show (a = 0 ∧ b = 1 ∧ c = 2) ∨ (a = 0 ∧ b = 1 ∧ c = 3) ∨ (a = 0 ∧ b = 2 ∧ c = 3) ∨ (a = 1 ∧ b = 2 ∧ c = 3) by omega) with ⟨rfl, rfl, rfl⟩ | ⟨rfl, rfl, rfl⟩ | ⟨rfl, rfl, rfl⟩ | ⟨rfl, rfl, rfl⟩ <;> decide
  | [a, b, c, d], _ =>
    simp only [qr, Bool.and_eq_true, decide_eq_true_eq, and_true] at h
    obtain ⟨h1, h2, h3, h4⟩ := h
    obtain ⟨rfl, rfl, rfl, rfl⟩ : a = 0 ∧ b = 1 ∧ c = 2 ∧ d = 3 := by omega
    decide
  | a :: b :: c :: d :: e :: _, _ =>
    simp only [qr, Bool.and_eq_true, decide_eq_true_eq] at h
    omega
/-- How often a number stands in a list. -/
def cnt1 (a : Int) (Q : List Int) : Nat := (Q.filter fun b => decide (a = b)).length
/-- How many pairs of two lists are equal. -/
def cnt2 (P Q : List Int) : Nat := (P.map fun a => cnt1 a Q).sum
theorem cnt1_step {a : Int} {Q : List Int} {j : Nat} (h : j < Q.length) : cnt1 a (Q.take (j + 1)) = cnt1 a (Q.take j) + (if a = Q[j] then 1 else 0) := by
  unfold cnt1; rw [List.take_succ_eq_append_getElem h, List.filter_append, List.length_append]
  by_cases e : a = Q[j] <;> simp [e]
theorem cnt2_step {P Q : List Int} {i : Nat} (h : i < P.length) : cnt2 (P.take (i + 1)) Q = cnt2 (P.take i) Q + cnt1 P[i] Q := by
  unfold cnt2; rw [List.take_succ_eq_append_getElem h, List.map_append, List.sum_append]; simp
theorem cnt1_le (a : Int) (Q : List Int) : cnt1 a Q ≤ Q.length := List.length_filter_le _ _
theorem cnt2_le (P Q : List Int) : cnt2 P Q ≤ P.length * Q.length := by
  unfold cnt2
  induction P with
  | nil => simp
  | cons a P ih => have := cnt1_le a Q; simp only [List.map_cons, List.sum_cons, List.length_cons, Nat.add_mul, Nat.one_mul]; omega
theorem two_share : ∀ P ∈ five, ∀ Q ∈ five, 2 ≤ cnt2 P Q := by decide
theorem quorums_share {P Q : List Int} (h : quorum P = true) (g : quorum Q = true) : 2 ≤ cnt2 P Q := two_share P (quorum_five h) Q (quorum_five g)
end Go.Proofs.YtjnbhppnchmeoaaDoor
