/- Proofs and changes whose rows are the call's own: what leaves them as they are. The marks in rows of int64: what markInt64S leaves, what heldInt64S finds. The marks in rows of proofs: what markProofS leaves. What heldProofS finds; the marks of a row of proofs that may be nil. -/
import Derived.Test.YtjnbhppnchmeoaaDoorSyRPW
import Derived.Test.YtjnbhppnchmeoaaDoorTAppW
import Derived.BigRegion
namespace Go.Proofs.YtjnbhppnchmeoaaDoor
open Go.RowKit
set_option linter.unusedVariables false
set_option maxRecDepth 1000000

/-- The blocks that hold two slices are not the same. -/
def apartA (A B : Option Addr) : Prop := ∀ a b, A = some a → B = some b → a.block ≠ b.block
/-- Proofs, each with a row of its own. -/
def PrfsO (w : World) (base : Nat) (M : List PrfA) : Prop := (∀ i (h : i < M.length), PrfO w base M[i]) ∧ ∀ i j (hi : i < M.length) (hj : j < M.length), i ≠ j → apartA M[i].A M[j].A
theorem PrfsO.nil (w : World) (base : Nat) : PrfsO w base [] := ⟨fun i h => absurd h (by simp), fun i j h => absurd h (by simp)⟩
theorem PrfO.kept {w w' : World} {base : Nat} {m : PrfA} {row : Option Nat} (h : PrfO w base m) (hg : w.grownBy w' row) (hr : ∀ k, row = some k → k < base) : PrfO w' base m :=
  World.ownsRow.kept h hg (by
    cases hv : (Value.slice m.A m.t.who.length m.c).ownBlock with
    | none => exact .inl rfl
    | some k =>
      refine .inr fun e => ?_
      have h1 := (World.ownsRow.lt h k hv).1
      have h2 := hr k e.symm
      omega)
theorem PrfsO.kept {w w' : World} {base : Nat} {M : List PrfA} {row : Option Nat} (h : PrfsO w base M) (hg : w.grownBy w' row) (hr : ∀ k, row = some k → k < base) : PrfsO w' base M :=
  ⟨fun i hi => (h.1 i hi).kept hg hr, h.2⟩
/-- A row of other things grows. -/
theorem PrfsO.row {w w' : World} {base b s n : Nat} {M : List PrfA} {v : Value} {xs : List Value} {T : TypeId} (h : PrfsO w base M) (h2 : w.ownsRow b T s v n xs) (ht : 2 ≠ T) (hg : w.grownBy w' v.ownBlock) : PrfsO w' base M :=
  ⟨fun i hi => World.ownsRow.kept (h.1 i hi) hg (own_apart (h.1 i hi) h2 ht), h.2⟩
theorem PrfsO.alloc {w : World} {base : Nat} {M : List PrfA} (h : PrfsO w base M) (o : Obj) : PrfsO (w.alloc o) base M := ⟨fun i hi => World.ownsRow.alloc (h.1 i hi) o, h.2⟩
theorem PrfsO.drew {w : World} {base : Nat} {M : List PrfA} (h : PrfsO w base M) : PrfsO w.drew base M := h
theorem PrfsO.set {w : World} {base : Nat} {M : List PrfA} (h : PrfsO w base M) {p : Addr} (hp : p.block < base) (u : Value) : PrfsO (w.setCell p u) base M := ⟨fun i hi => row_far (h.1 i hi) hp u, h.2⟩
theorem PrfsO.low {w : World} {base base' : Nat} {M : List PrfA} (h : PrfsO w base M) (hb : base' ≤ base) : PrfsO w base' M := ⟨fun i hi => own_base (h.1 i hi) hb, h.2⟩
theorem PrfsO.lt {w : World} {base : Nat} {M : List PrfA} (h : PrfsO w base M) (i : Nat) (hi : i < M.length) : ∀ a, M[i].A = some a → base ≤ a.block ∧ a.block < w.heap.size := fun a e => World.ownsRow.lt (h.1 i hi) a.block (by rw [own_blk, e]; rfl)
/-- Proofs of before and proofs read since. -/
theorem PrfsO.append {w : World} {base mid : Nat} {M N : List PrfA} (h : PrfsO w base M) (h' : PrfsO w mid N) (hm : ∀ i (hi : i < M.length), ∀ a, M[i].A = some a → a.block < mid) (hb : base ≤ mid) : PrfsO w base (M ++ N) := by
  refine ⟨fun i hi => ?_, fun i j hi hj hne => ?_⟩
  · by_cases e : i < M.length
    · rw [List.getElem_append_left e]; exact h.1 i e
    · rw [List.getElem_append_right (by omega)]; exact own_base (h'.1 _ (by simp at hi; omega)) hb
  · by_cases e : i < M.length <;> by_cases f : j < M.length
    · rw [List.getElem_append_left e, List.getElem_append_left f]; exact h.2 i j e f hne
    · rw [List.getElem_append_left e, List.getElem_append_right (by omega)]
      intro a b ha hb' heq
      have h1 := hm i e a ha
      have h2 := (h'.lt (j - M.length) (by simp at hj; omega) b hb').1
      omega
    · rw [List.getElem_append_right (by omega), List.getElem_append_left f]
      intro a b ha hb' heq
      have h1 := hm j f b hb'
      have h2 := (h'.lt (i - M.length) (by simp at hi; omega) a ha).1
      omega
    · rw [List.getElem_append_right (by omega), List.getElem_append_right (by omega)]
      exact h'.2 _ _ (by simp at hi; omega) (by simp at hj; omega) (by omega)
theorem PrfsO.one {w : World} {base : Nat} {m : PrfA} (h : PrfO w base m) : PrfsO w base [m] :=
  ⟨fun i hi => by obtain rfl : i = 0 := by simpa using hi
                  exact h, fun i j hi hj hne => by simp at hi hj; omega⟩
/-- The proofs of a change in a row of the call's own, each with its own. -/
structure CngO (w : World) (base : Nat) (m : CngA) (M : List PrfA) : Prop where
  row : w.ownsRow base 90 4 (.slice m.A m.t.proofs.length m.c) m.t.proofs.length (pflat M)
  all : M.map (·.t) = m.t.proofs
  own : PrfsO w base M
theorem CngO.kept {w w' : World} {base : Nat} {m : CngA} {M : List PrfA} {row : Option Nat} (h : CngO w base m M) (hg : w.grownBy w' row) (hr : ∀ k, row = some k → k < base) : CngO w' base m M :=
  ⟨World.ownsRow.kept h.row hg (by
    cases hv : (Value.slice m.A m.t.proofs.length m.c).ownBlock with
    | none => exact .inl rfl
    | some k =>
      refine .inr fun e => ?_
      have h1 := (World.ownsRow.lt h.row k hv).1
      have h2 := hr k e.symm
      omega), h.all, h.own.kept hg hr⟩
/-- A change with its proofs. -/
structure CM where
  m : CngA
  M : List PrfA
  deriving Inhabited
/-- The proofs of all changes. -/
def inn (L : List CM) : List PrfA := L.flatMap CM.M
/-- Changes, each with rows of its own. -/
structure CngsO (w : World) (base : Nat) (L : List CM) : Prop where
  row : ∀ i (h : i < L.length), w.ownsRow base 90 4 (.slice L[i].m.A L[i].m.t.proofs.length L[i].m.c) L[i].m.t.proofs.length (pflat L[i].M)
  all : ∀ i (h : i < L.length), L[i].M.map (·.t) = L[i].m.t.proofs
  apart : ∀ i j (hi : i < L.length) (hj : j < L.length), i ≠ j → apartA L[i].m.A L[j].m.A
  own : PrfsO w base (inn L)
theorem CngsO.nil (w : World) (base : Nat) : CngsO w base [] := ⟨fun i h => absurd h (by simp), fun i h => absurd h (by simp), fun i j h => absurd h (by simp), PrfsO.nil w base⟩
theorem CngsO.kept {w w' : World} {base : Nat} {L : List CM} {row : Option Nat} (h : CngsO w base L) (hg : w.grownBy w' row) (hr : ∀ k, row = some k → k < base) : CngsO w' base L :=
  ⟨fun i hi => World.ownsRow.kept (h.row i hi) hg (by
    cases hv : (Value.slice L[i].m.A L[i].m.t.proofs.length L[i].m.c).ownBlock with
    | none => exact .inl rfl
    | some k =>
      refine .inr fun e => ?_
      have h1 := (World.ownsRow.lt (h.row i hi) k hv).1
      have h2 := hr k e.symm
      omega), h.all, h.apart, h.own.kept hg hr⟩
theorem CngsO.row' {w w' : World} {base b s n : Nat} {L : List CM} {v : Value} {xs : List Value} {T : TypeId} (h : CngsO w base L) (h2 : w.ownsRow b T s v n xs) (ht : 2 ≠ T) (ht' : 90 ≠ T) (hg : w.grownBy w' v.ownBlock) : CngsO w' base L :=
  ⟨fun i hi => World.ownsRow.kept (h.row i hi) hg (own_apart (h.row i hi) h2 ht'), h.all, h.apart, h.own.row h2 ht hg⟩
theorem CngsO.alloc {w : World} {base : Nat} {L : List CM} (h : CngsO w base L) (o : Obj) : CngsO (w.alloc o) base L := ⟨fun i hi => World.ownsRow.alloc (h.row i hi) o, h.all, h.apart, h.own.alloc o⟩
theorem CngsO.set {w : World} {base : Nat} {L : List CM} (h : CngsO w base L) {p : Addr} (hp : p.block < base) (u : Value) : CngsO (w.setCell p u) base L := ⟨fun i hi => row_far (h.row i hi) hp u, h.all, h.apart, h.own.set hp u⟩
theorem CngsO.low {w : World} {base base' : Nat} {L : List CM} (h : CngsO w base L) (hb : base' ≤ base) : CngsO w base' L := ⟨fun i hi => own_base (h.row i hi) hb, h.all, h.apart, h.own.low hb⟩
theorem CngsO.lt {w : World} {base : Nat} {L : List CM} (h : CngsO w base L) (i : Nat) (hi : i < L.length) : ∀ a, L[i].m.A = some a → base ≤ a.block ∧ a.block < w.heap.size := fun a e => World.ownsRow.lt (h.row i hi) a.block (by rw [own_blk, e]; rfl)
theorem CngsO.snoc {w : World} {base mid : Nat} {L : List CM} {c : CM} (h : CngsO w base L) (hc : CngO w mid c.m c.M) (hm : ∀ i (hi : i < L.length), ∀ a, L[i].m.A = some a → a.block < mid) (hm2 : ∀ i (hi : i < (inn L).length), ∀ a, (inn L)[i].A = some a → a.block < mid) (hb : base ≤ mid) : CngsO w base (L ++ [c]) := by
  refine ⟨fun i hi => ?_, fun i hi => ?_, fun i j hi hj hne => ?_, ?_⟩
  · by_cases e : i < L.length
    · rw [List.getElem_append_left e]; exact h.row i e
    · obtain rfl : i = L.length := by simp at hi; omega
      simp only [List.getElem_concat_length]
      exact own_base hc.row hb
  · by_cases e : i < L.length
    · rw [List.getElem_append_left e]; exact h.all i e
    · obtain rfl : i = L.length := by simp at hi; omega
      simp only [List.getElem_concat_length]
      exact hc.all
  · by_cases e : i < L.length <;> by_cases f : j < L.length
    · rw [List.getElem_append_left e, List.getElem_append_left f]; exact h.apart i j e f hne
    · obtain rfl : j = L.length := by simp at hj; omega
      rw [List.getElem_append_left e]
      simp only [List.getElem_concat_length]
      intro a b ha hb' heq
      have h1 := hm i e a ha
      have h2 := (World.ownsRow.lt hc.row b.block (by rw [own_blk, hb']; rfl)).1
      omega
    · obtain rfl : i = L.length := by simp at hi; omega
      rw [List.getElem_append_left f]
      simp only [List.getElem_concat_length]
      intro a b ha hb' heq
      have h1 := hm j f b hb'
      have h2 := (World.ownsRow.lt hc.row a.block (by rw [own_blk, ha]; rfl)).1
      omega
    · simp at hi hj; omega
  · have : inn (L ++ [c]) = inn L ++ c.M := by simp [inn]
    rw [this]
    exact h.own.append hc.own hm2 hb
end Go.Proofs.YtjnbhppnchmeoaaDoor

namespace Go.Proofs.YtjnbhppnchmeoaaDoor
open Go.RowKit
set_option linter.unusedVariables false
set_option maxRecDepth 1000000

/-- The marks of n numbers, from k on. -/
def markI (n k : Nat) : List Int := (List.range n).map fun i => ((k + i : Nat) : Int)
theorem markI_len (n k : Nat) : (markI n k).length = n := by simp [markI]
theorem markI_get {n k i : Nat} (h : i < n) : (markI n k)[i]'(by rw [markI_len]; exact h) = ((k + i : Nat) : Int) := by simp [markI]
set_option maxHeartbeats 2000000 in
theorem markInt64S_row (g n c base k : Nat) (L : List Int) (w : World) (hR : w.ownsRow base 2 1 (.slice (some ⟨g, 0, none⟩) n c) n (L.map (Value.int .i64))) (h0 : 1 ≤ k) (h1 : k + n ≤ 4000000) :
    Calls Tryd.prog 110 #[.slice (some ⟨g, 0, none⟩) n c, .int .i64 k] w fun e w' => e = .returned (.int .i64 ((k + n : Nat) : Int)) ∧
      w'.ownsRow base 2 1 (.slice (some ⟨g, 0, none⟩) n c) n ((markI n k).map (Value.int .i64)) ∧ w.grownBy w' (some g) := by
  have hl := hR.1
  rw [List.length_map] at hl
  have hl' : L.length = n := by omega
  clear hl
  go_enter Tryd.func110, Tryd.ntmps110
  go_wp2
  go_loopw [1, 5] (fun q i wr => ∃ j : Nat, j ≤ n ∧ i = .int .i64 j ∧ q = .int .i64 ((k + j : Nat) : Int) ∧ wr.ownsRow base 2 1 (.slice (some ⟨g, 0, none⟩) n c) n (((markI n k).take j ++ L.drop j).map (Value.int .i64)) ∧ w.grownBy wr (some g)) (fun _ i _ => n - (intOf i).toNat)
  case atStart => exact ⟨0, by omega, rfl, rfl, by simpa using hR, World.grownBy.refl _ _⟩
  case round =>
    obtain ⟨j, hj, rfl, rfl, hr, hg⟩ := hrel
    by_cases hlt : j < n
    · have hlt' : (j : Int) < (n : Int) := by omega
      obtain ⟨u1, c1⟩ := row_cell hr (j := j) (by omega)
      have f1 := hr.frozenAt j
      have s1 := (hr.stored j (.int .i64 ((k + j : Nat) : Int))).1
      have t1 := gr_set hg (i := j) (.int .i64 ((k + j : Nat) : Int))
      have e1 : ((markI n k).take j ++ L.drop j).set j ((k + j : Nat) : Int) = (markI n k).take (j + 1) ++ L.drop (j + 1) := by
        rw [← markI_get hlt]; exact part_set (by rw [markI_len]; omega) (by omega)
      have s2 := s1
      rw [← List.map_set, e1] at s2
      clear s1
      go_wp2
      exact ⟨⟨j + 1, by omega, by go_num, by go_num, s2, t1⟩, by simp [intOf]; omega⟩
    · obtain rfl : j = n := by omega
      go_wp2
      go_ret
      rw [List.take_of_length_le (by rw [markI_len]; exact Nat.le_refl _), List.drop_of_length_le (by omega), List.append_nil] at hr
      exact ⟨rfl, hr, hg⟩
theorem markInt64S_own (A : Option Addr) (L : List Int) (c base k : Nat) (w : World) (hF : w.ownsRow base 2 1 (.slice A L.length c) L.length (L.map (Value.int .i64))) (h0 : 1 ≤ k) (h1 : k + L.length ≤ 4000000) :
    Calls Tryd.prog 110 #[.slice A L.length c, .int .i64 k] w fun e w' => e = .returned (.int .i64 ((k + L.length : Nat) : Int)) ∧
      w'.ownsRow base 2 1 (.slice A L.length c) L.length ((markI L.length k).map (Value.int .i64)) ∧ w.grownBy w' (A.map (·.block)) := by
  rcases hF.2 with ⟨hv, hz⟩ | ⟨g, cap, cur, hv, _⟩
  · have hz' : L = [] := List.eq_nil_of_length_eq_zero hz
    subst hz'
    cases hv
    go_enter Tryd.func110, Tryd.ntmps110
    go_wp2
    go_loop [1, 5] (fun q i => q = .int .i64 k ∧ i = .int .i64 0) (fun _ _ => 0)
    case atStart => exact ⟨rfl, rfl⟩
    case round =>
      obtain ⟨rfl, rfl⟩ := hrel
      go_wp2
      go_ret
      exact ⟨rfl, World.ownsRow_nil _ _ _ _, World.grownBy.refl _ _⟩
  · cases hv
    exact markInt64S_row g L.length c base k L w hF h0 h1
set_option maxHeartbeats 2000000 in
theorem heldInt64S_any (A : Option Addr) (n c k : Nat) (w : World) {lo : Nat} (hF : Ints w lo w.heap.size A (markI n k)) (h0 : 1 ≤ k) (h1 : k + n ≤ 4000000) :
    Calls Tryd.prog 111 #[.slice A n c, .int .i64 k] w fun e w' => e = .returned (.int .i64 ((k + n : Nat) : Int)) ∧ Below w.heap.size w w' := by
  go_enter Tryd.func111, Tryd.ntmps111
  go_wp2
  go_loopw [1, 5] (fun q i wr => ∃ j : Nat, j ≤ n ∧ i = .int .i64 j ∧ q = .int .i64 ((k + j : Nat) : Int) ∧ Below w.heap.size w wr) (fun _ i _ => n - (intOf i).toNat)
  case atStart => exact ⟨0, by omega, rfl, rfl, Below.refl _ _⟩
  case round =>
    obtain ⟨j, hj, rfl, rfl, hb⟩ := hrel
    by_cases hlt : j < n
    · have hlt' : (j : Int) < (n : Int) := by omega
      obtain ⟨a, rfl, _, hab, a0, _⟩ := (hF.on hb).2 j (by rw [markI_len]; exact hlt)
      rw [markI_get hlt] at a0
      go_wp2
      exact ⟨⟨j + 1, by omega, by go_num, by go_num, hb⟩, by simp [intOf]; omega⟩
    · obtain rfl : j = n := by omega
      go_wp2
      go_ret
      exact ⟨rfl, hb⟩
end Go.Proofs.YtjnbhppnchmeoaaDoor

namespace Go.Proofs.YtjnbhppnchmeoaaDoor
open Go.RowKit
set_option linter.unusedVariables false
set_option maxRecDepth 1000000

/-- But for the blocks of S the world is as it was. -/
structure Frm (w w' : World) (S : Nat → Prop) : Prop where
  os : w'.os = w.os
  tape : w'.tape = w.tape
  output : w'.output = w.output
  size : w.heap.size ≤ w'.heap.size
  block : ∀ b, b < w.heap.size → ¬ S b → w'.heap[b]? = w.heap[b]?
theorem Frm.refl (w : World) (S : Nat → Prop) : Frm w w S := ⟨rfl, rfl, rfl, Nat.le_refl _, fun _ _ _ => rfl⟩
theorem Frm.grown {w v v' : World} {S : Nat → Prop} {row : Option Nat} (h : Frm w v S) (hg : v.grownBy v' row) (hr : ∀ b, row = some b → S b) : Frm w v' S :=
  ⟨hg.os.trans h.os, hg.tape.trans h.tape, hg.output.trans h.output, Nat.le_trans h.size hg.size, fun b hb hn => (hg.block b (Nat.lt_of_lt_of_le hb h.size) (fun e => hn (hr b e.symm))).trans (h.block b hb hn)⟩
theorem Frm.below {w v v' : World} {S : Nat → Prop} (h : Frm w v S) (hb : Below v.heap.size v v') : Frm w v' S := h.grown (grown_below (row := none) hb) (fun b e => by cases e)
theorem grown_cell (w : World) (p : Addr) (u : Value) : w.grownBy (w.setCell p u) (some p.block) :=
  ⟨rfl, rfl, rfl, by simp [World.setCell], fun k _ hne => Below.heap_setCell w p u k (fun e => hne (by rw [e]))⟩

def mkP (k : Nat) (m : PrfA) : PrfA := ⟨⟨((k : Nat) : Int), ((k + 1 : Nat) : Int), markS (k + 2), markI m.t.who.length (k + 3)⟩, m.A, m.c⟩
def wP (m : PrfA) : Nat := 3 + m.t.who.length
def mkPs : Nat → List PrfA → List PrfA
  | _, [] => []
  | k, m :: M => mkP k m :: mkPs (k + wP m) M
def wPs : List PrfA → Nat
  | [] => 0
  | m :: M => wP m + wPs M
theorem mkPs_len : ∀ (M : List PrfA) (k : Nat), (mkPs k M).length = M.length
  | [], _ => rfl
  | m :: M, k => by show (mkPs (k + wP m) M).length + 1 = M.length + 1; rw [mkPs_len M]
theorem mkPs_get : ∀ (M : List PrfA) (k i : Nat) (h : i < M.length), (mkPs k M)[i]'(by rw [mkPs_len]; exact h) = mkP (k + wPs (M.take i)) M[i]
  | [], _, _, h => absurd h (by simp)
  | m :: M, k, 0, _ => rfl
  | m :: M, k, i + 1, h => by
    have := mkPs_get M (k + wP m) i (by simpa using h)
    simp only [mkPs, List.getElem_cons_succ, List.take_succ_cons, wPs]
    rw [this, Nat.add_assoc]
theorem wPs_take : ∀ (M : List PrfA) (i : Nat) (h : i < M.length), wPs (M.take (i + 1)) = wPs (M.take i) + wP M[i]
  | [], _, h => absurd h (by simp)
  | m :: M, 0, _ => by simp [wPs]
  | m :: M, i + 1, h => by
    have := wPs_take M i (by simpa using h)
    simp only [List.take_succ_cons, wPs, List.getElem_cons_succ] at this ⊢
    omega
theorem wPs_le : ∀ (M : List PrfA) (i : Nat), wPs (M.take i) ≤ wPs M
  | [], i => by simp
  | m :: M, 0 => Nat.zero_le _
  | m :: M, i + 1 => by have := wPs_le M i; simp only [List.take_succ_cons, wPs]; omega
/-- The first j of M marked. -/
def mixP (k : Nat) (M : List PrfA) (j : Nat) : List PrfA := (mkPs k M).take j ++ M.drop j
theorem mixP_len {k : Nat} {M : List PrfA} {j : Nat} (h : j ≤ M.length) : (mixP k M j).length = M.length := by
  unfold mixP; simp [mkPs_len]; omega
theorem mixP_at {k : Nat} {M : List PrfA} {j : Nat} (h : j < M.length) : (mixP k M j)[j]'(by rw [mixP_len (Nat.le_of_lt h)]; exact h) = M[j] := by
  unfold mixP
  rw [List.getElem_append_right (by rw [List.length_take]; exact Nat.min_le_left _ _)]
  simp [mkPs_len, Nat.min_eq_left (Nat.le_of_lt h)]
theorem mixP_A {k : Nat} {M : List PrfA} {j : Nat} (hj : j ≤ M.length) (i : Nat) (h : i < M.length) : ((mixP k M j)[i]'(by rw [mixP_len hj]; exact h)).A = M[i].A := by
  unfold mixP
  by_cases e : i < j
  · rw [List.getElem_append_left (by simp [mkPs_len]; omega), List.getElem_take, mkPs_get M k i h]; rfl
  · rw [List.getElem_append_right (by simp [mkPs_len]; omega), List.getElem_drop]
    simp only [List.length_take, mkPs_len, Nat.min_eq_left hj]
    congr 2
    omega
theorem mixP_set {k : Nat} {M : List PrfA} {j : Nat} (h : j < M.length) : (mixP k M j).set j (mkP (k + wPs (M.take j)) M[j]) = mixP k M (j + 1) := by
  rw [← mkPs_get M k j h]
  exact part_set (mkPs_len M k) h
theorem mixP_end (k : Nat) (M : List PrfA) : mixP k M M.length = mkPs k M := by
  unfold mixP
  rw [List.take_of_length_le (by rw [mkPs_len]; exact Nat.le_refl _), List.drop_of_length_le (Nat.le_refl _), List.append_nil]
theorem set_same {xs : List Value} {i : Nat} {v : Value} (h : xs[i]? = some v) : xs.set i v = xs := by
  apply List.ext_getElem?
  intro j
  by_cases e : i = j
  · subst e; rw [List.getElem?_set_self (List.getElem?_eq_some_iff.1 h).1, h]
  · rw [List.getElem?_set_ne e]
/-- The three marks of a proof in its row. -/
theorem pflat_mark {k : Nat} {M : List PrfA} {j : Nat} (h : j < M.length) :
    (((pflat (mixP k M j)).set (j * 4) (.int .i64 ((k + wPs (M.take j) : Nat) : Int))).set (j * 4 + 1) (.int .i64 ((k + wPs (M.take j) + 1 : Nat) : Int))).set (j * 4 + 2) (.string (markS (k + wPs (M.take j) + 2))) = pflat (mixP k M (j + 1)) := by
  rw [← mixP_set h, ← pflat_set]
  simp only [mkP, markI_len]
  symm
  refine set_same ?_
  rw [List.getElem?_set_ne (by omega), List.getElem?_set_ne (by omega), List.getElem?_set_ne (by omega), pflat_get _ j (by rw [mixP_len (Nat.le_of_lt h)]; exact h) 3 (by omega), mixP_at h]
  rfl
/-- The blocks of a row and of what its proofs hold. -/
def blkP (A : Option Addr) (M : List PrfA) (b : Nat) : Prop := A.map (·.block) = some b ∨ ∃ i, ∃ h : i < M.length, M[i].A.map (·.block) = some b
theorem PrfsO.mark {w w' : World} {bi k : Nat} {M : List PrfA} {j : Nat} (h : j < M.length) (ho : PrfsO w bi (mixP k M j))
    (hn : w'.ownsRow bi 2 1 (.slice M[j].A M[j].t.who.length M[j].c) M[j].t.who.length ((markI M[j].t.who.length (k + wPs (M.take j) + 3)).map (Value.int .i64))) (hg : w.grownBy w' (M[j].A.map (·.block))) : PrfsO w' bi (mixP k M (j + 1)) := by
  have hl := mixP_len (k := k) (Nat.le_of_lt h)
  refine ⟨fun i hi => ?_, fun i i' hi hi' hne => ?_⟩
  · have hi2 : i < M.length := by rw [mixP_len h] at hi; exact hi
    by_cases e : i = j
    · subst e
      have e2 : (mixP k M (i + 1))[i] = mkP (k + wPs (M.take i)) M[i] := by
        have := mixP_set (k := k) h
        simp only [← this, List.getElem_set_self]
      rw [e2]
      unfold PrfO mkP
      simp only [markI_len]
      exact hn
    · have e2 : (mixP k M (j + 1))[i] = (mixP k M j)[i]'(by rw [hl]; exact hi2) := by
        have := mixP_set (k := k) h
        simp only [← this]
        rw [List.getElem_set_ne (by omega)]
      rw [e2]
      refine World.ownsRow.kept (ho.1 i (by rw [hl]; exact hi2)) hg ?_
      rw [own_blk]
      have ha := ho.2 i j (by rw [hl]; exact hi2) (by rw [hl]; exact h) e
      rw [mixP_A (Nat.le_of_lt h) i hi2, mixP_at h] at ha
      rw [mixP_A (Nat.le_of_lt h) i hi2]
      cases hA : M[i].A with
      | none => exact .inl rfl
      | some a =>
        refine .inr fun e3 => ?_
        cases hB : M[j].A with
        | none => rw [hB] at e3; cases e3
        | some b =>
          rw [hB] at e3
          exact ha a b hA hB (Option.some.inj e3)
  · have hi2 : i < M.length := by rw [mixP_len h] at hi; exact hi
    have hi3 : i' < M.length := by rw [mixP_len h] at hi'; exact hi'
    rw [mixP_A h i hi2, mixP_A h i' hi3]
    have ha := ho.2 i i' (by rw [hl]; exact hi2) (by rw [hl]; exact hi3) hne
    rw [mixP_A (Nat.le_of_lt h) i hi2, mixP_A (Nat.le_of_lt h) i' hi3] at ha
    exact ha
set_option maxHeartbeats 4000000 in
theorem markProofS_row (g c base bi k : Nat) (M : List PrfA) (w : World) (hr : w.ownsRow base 90 4 (.slice (some ⟨g, 0, none⟩) M.length c) M.length (pflat M)) (ho : PrfsO w bi M) (h0 : 1 ≤ k) (h1 : k + wPs M ≤ 3999990) :
    Calls Tryd.prog 84 #[.slice (some ⟨g, 0, none⟩) M.length c, .int .i64 k] w fun e w' => e = .returned (.int .i64 ((k + wPs M : Nat) : Int)) ∧
      w'.ownsRow base 90 4 (.slice (some ⟨g, 0, none⟩) M.length c) M.length (pflat (mkPs k M)) ∧ PrfsO w' bi (mkPs k M) ∧ Frm w w' (blkP (some ⟨g, 0, none⟩) M) := by
  have hn := hr.1
  rw [pflat_len] at hn
  have hml : M.length ≤ 4000000 := by
    have : ∀ L : List PrfA, L.length ≤ wPs L := fun L => by
      induction L with
      | nil => exact Nat.zero_le _
      | cons m L ih => simp only [List.length_cons, wPs, wP]; omega
    have := this M
    omega
  go_enter Tryd.func84, Tryd.ntmps84
  go_wp2
  go_loopw [1, 5] (fun q i wr => ∃ j : Nat, j ≤ M.length ∧ i = .int .i64 j ∧ q = .int .i64 ((k + wPs (M.take j) : Nat) : Int) ∧ wr.ownsRow base 90 4 (.slice (some ⟨g, 0, none⟩) M.length c) M.length (pflat (mixP k M j)) ∧ PrfsO wr bi (mixP k M j) ∧ Frm w wr (blkP (some ⟨g, 0, none⟩) M)) (fun _ i _ => M.length - (intOf i).toNat)
  case atStart => exact ⟨0, by omega, rfl, rfl, hr, ho, Frm.refl _ _⟩
  case round =>
    clear hr ho
    obtain ⟨j, hj, rfl, rfl, hr, ho, hf⟩ := hrel
    by_cases hlt : j < M.length
    · have hlt' : (j : Int) < (M.length : Int) := by omega
      have hle := wPs_le M (j + 1)
      have hst := wPs_take M j hlt
      have hwp : wP M[j] = 3 + M[j].t.who.length := rfl
      have PM := Lib.hid (pflat_mark (k := k) hlt)
      have PO := Lib.hid (fun w w' h hn hg => PrfsO.mark (w := w) (w' := w') (bi := bi) (k := k) hlt h hn hg)
      have hat := mixP_at (k := k) hlt
      obtain ⟨y0, y1, y2, y3, f0, f1, f2, f3⟩ := row_p hr (k := j) (by rw [mixP_len hj]; exact hlt)
      rw [hat] at y0 y1 y2 y3
      have hST := Lib.hid hst
      obtain ⟨kk, hkk⟩ : ∃ kk, Hid (k + wPs (M.take j) = kk) := ⟨_, Lib.hid rfl⟩
      rw [hkk.out] at PM PO ⊢
      have hk1 : 1 ≤ kk ∧ kk + 3 + M[j].t.who.length ≤ 3999990 := by have := hkk.out; omega
      rw [show ((kk + 1 : Nat) : Int) = (kk : Int) + 1 by omega] at PM
      have r1 := (hr.stored (j * 4) (.int .i64 (kk : Int))).1
      have r2 := (r1.stored (j * 4 + 1) (.int .i64 ((kk : Int) + 1))).1
      have o1 := ho.row hr (by decide) (grown_cell wr ⟨g, j * 4, none⟩ (.int .i64 (kk : Int)))
      have o2 := o1.row r1 (by decide) (grown_cell (wr.setCell ⟨g, j * 4, none⟩ (.int .i64 (kk : Int))) ⟨g, j * 4 + 1, none⟩ (.int .i64 ((kk : Int) + 1)))
      have q2 := (hf.grown (grown_cell wr ⟨g, j * 4, none⟩ (.int .i64 (kk : Int))) (fun b e => .inl e)).grown (grown_cell (wr.setCell ⟨g, j * 4, none⟩ (.int .i64 (kk : Int))) ⟨g, j * 4 + 1, none⟩ (.int .i64 ((kk : Int) + 1))) (fun b e => .inl e)
      have MT := Lib.hid (fun W => markText_any (kk + 2) W (by omega) (by omega))
      rw [show ((kk + 2 : Nat) : Int) = (kk : Int) + 1 + 1 by omega] at MT
      clear hst hle hwp
      go_wp2_with (fail)
      clear y0 y1 y2 y3 f0 f1 f2 f3 r1 o1 hr ho hf
      generalize ((wr.setCell ⟨g, j * 4, none⟩ (.int .i64 (kk : Int))).setCell ⟨g, j * 4 + 1, none⟩ (.int .i64 ((kk : Int) + 1))) = v2 at r2 o2 q2 ⊢
      refine (MT.out _).mono ?_
      rintro e v3 ⟨rfl, hb3⟩
      have r3 := row_below r2 hb3 (Nat.le_refl _)
      have o3 := o2.kept (grown_below (row := none) hb3) (fun k e => by cases e)
      have q3 := q2.below hb3
      clear r2 o2 q2 hb3 MT
      obtain ⟨u2, c2⟩ := row_cell r3 (j := j * 4 + 2) (by omega)
      have f2 := r3.frozenAt (j * 4 + 2)
      have r4 := (r3.stored (j * 4 + 2) (.string (markS (kk + 2)))).1
      have o4 := o3.row r3 (by decide) (grown_cell v3 ⟨g, j * 4 + 2, none⟩ (.string (markS (kk + 2))))
      have q4 := q3.grown (grown_cell v3 ⟨g, j * 4 + 2, none⟩ (.string (markS (kk + 2)))) (fun b e => .inl e)
      rw [PM.out] at r4
      have y3 : (v3.setCell ⟨g, j * 4 + 2, none⟩ (.string (markS (kk + 2)))).cell? ⟨g, j * 4 + 3, none⟩ = some (.slice M[j].A M[j].t.who.length M[j].c) := by
        obtain ⟨_, _, _, z3, _⟩ := row_p r4 (k := j) (by rw [mixP_len hlt]; exact hlt)
        have e2 : (mixP k M (j + 1))[j]'(by rw [mixP_len hlt]; exact hlt) = mkP kk M[j] := by
          have := mixP_set (k := k) hlt
          rw [hkk.out] at this
          simp only [← this, List.getElem_set_self]
        rw [e2] at z3
        simpa [mkP, markI_len] using z3
      have op : PrfO (v3.setCell ⟨g, j * 4 + 2, none⟩ (.string (markS (kk + 2)))) bi M[j] := by
        have := o4.1 j (by rw [mixP_len hj]; exact hlt)
        rw [hat] at this
        exact this
      have MI := Lib.hid (markInt64S_own M[j].A M[j].t.who M[j].c bi (kk + 3) _ op (by omega) (by omega))
      rw [show ((kk + 3 : Nat) : Int) = (kk : Int) + 1 + 1 + 1 by omega] at MI
      have own_i : ∀ v : Value, True := fun _ => trivial
      clear own_i
      go_wp2_with (fail)
      refine MI.out.mono ?_
      rintro e v5 ⟨rfl, hi5, hg5⟩
      have o5 := PO.out _ _ o4 hi5 hg5
      have r5 := World.ownsRow.kept r4 hg5 (by have h := own_apart r4 op (by decide); rw [own_blk] at h ⊢; rw [own_blk] at h; exact h)
      have q5 := q4.grown hg5 (fun b e => .inr ⟨j, hlt, e⟩)
      clear y3 c2 f2 r3 o3 q3 op MI
      have hq : kk + 3 + M[j].t.who.length = k + wPs (M.take (j + 1)) := by have h1 := hST.out; have h2 := hkk.out; have h3 : wP M[j] = 3 + M[j].t.who.length := rfl; omega
      rw [hq]
      go_wp2
      exact ⟨⟨j + 1, by omega, by go_num, rfl, r5, o5, q5⟩, by simp [intOf]; omega⟩
    · obtain rfl : j = M.length := by omega
      go_wp2
      go_ret
      rw [mixP_end] at hr ho
      exact ⟨by rw [List.take_of_length_le (Nat.le_refl _)]; rfl, hr, ho, hf⟩
end Go.Proofs.YtjnbhppnchmeoaaDoor

namespace Go.Proofs.YtjnbhppnchmeoaaDoor
open Go.RowKit
set_option linter.unusedVariables false
set_option maxRecDepth 1000000

theorem Frm.mono {w w' : World} {S T : Nat → Prop} (h : Frm w w' S) (hs : ∀ b, S b → T b) : Frm w w' T := ⟨h.os, h.tape, h.output, h.size, fun b hb hn => h.block b hb (fun e => hn (hs b e))⟩
theorem markProofS_own (A : Option Addr) (c base bi k : Nat) (M : List PrfA) (w : World) (hr : w.ownsRow base 90 4 (.slice A M.length c) M.length (pflat M)) (ho : PrfsO w bi M) (h0 : 1 ≤ k) (h1 : k + wPs M ≤ 3999990) :
    Calls Tryd.prog 84 #[.slice A M.length c, .int .i64 k] w fun e w' => e = .returned (.int .i64 ((k + wPs M : Nat) : Int)) ∧
      w'.ownsRow base 90 4 (.slice A M.length c) M.length (pflat (mkPs k M)) ∧ PrfsO w' bi (mkPs k M) ∧ Frm w w' (blkP A M) := by
  rcases hr.2 with ⟨hv, hz⟩ | ⟨g, cap, cur, hv, _⟩
  · have hz' : M = [] := List.eq_nil_of_length_eq_zero hz
    subst hz'
    cases hv
    go_enter Tryd.func84, Tryd.ntmps84
    go_wp2
    go_loop [1, 5] (fun q i => q = .int .i64 k ∧ i = .int .i64 0) (fun _ _ => 0)
    case atStart => exact ⟨rfl, rfl⟩
    case round =>
      obtain ⟨rfl, rfl⟩ := hrel
      go_wp2
      go_ret
      exact ⟨rfl, World.ownsRow_nil _ _ _ _, PrfsO.nil _ _, Frm.refl _ _⟩
  · cases hv
    exact markProofS_row g c base bi k M w hr ho h0 h1
theorem mkPs_t (M : List PrfA) (k i : Nat) (h : i < M.length) : (((mkPs k M).map (·.t))[i]'(by rw [List.length_map, mkPs_len]; exact h)) = (mkP (k + wPs (M.take i)) M[i]).t := by
  rw [List.getElem_map, mkPs_get M k i h]
set_option maxHeartbeats 4000000 in
theorem heldProofS_any (A : Option Addr) (c k : Nat) (M : List PrfA) (w : World) {lo : Nat} (hF : Prs w lo w.heap.size A ((mkPs k M).map (·.t))) (h0 : 1 ≤ k) (h1 : k + wPs M ≤ 3999990) :
    Calls Tryd.prog 85 #[.slice A M.length c, .int .i64 k] w fun e w' => e = .returned (.int .i64 ((k + wPs M : Nat) : Int)) ∧ Below w.heap.size w w' := by
  have hml : M.length ≤ 4000000 := by
    have : ∀ L : List PrfA, L.length ≤ wPs L := fun L => by
      induction L with
      | nil => exact Nat.zero_le _
      | cons m L ih => simp only [List.length_cons, wPs, wP]; omega
    have := this M
    omega
  have hll : ((mkPs k M).map (·.t)).length = M.length := by rw [List.length_map, mkPs_len]
  go_enter Tryd.func85, Tryd.ntmps85
  go_wp2
  go_loopw [1, 5] (fun q i wr => ∃ j : Nat, j ≤ M.length ∧ i = .int .i64 j ∧ q = .int .i64 ((k + wPs (M.take j) : Nat) : Int) ∧ Below w.heap.size w wr) (fun _ i _ => M.length - (intOf i).toNat)
  case atStart => exact ⟨0, by omega, rfl, rfl, Below.refl _ _⟩
  case round =>
    obtain ⟨j, hj, rfl, rfl, hb⟩ := hrel
    by_cases hlt : j < M.length
    · have hlt' : (j : Int) < (M.length : Int) := by omega
      have hle := wPs_le M (j + 1)
      have hst := wPs_take M j hlt
      have hwp : wP M[j] = 3 + M[j].t.who.length := rfl
      obtain ⟨a, rfl, hab, C, c1, y0, y1, y2, y3, hC⟩ := (hF.on hb).at j (by rw [hll]; exact hlt)
      rw [mkPs_t M k j hlt] at y0 y1 y2 y3 hC
      have hST := Lib.hid hst
      obtain ⟨kk, hkk⟩ : ∃ kk, Hid (k + wPs (M.take j) = kk) := ⟨_, Lib.hid rfl⟩
      rw [hkk.out] at y0 y1 y2 y3 hC ⊢
      simp only [mkP, markI_len] at y0 y1 y2 y3 hC
      rw [show ((kk + 1 : Nat) : Int) = (kk : Int) + 1 by omega] at y1
      have hk1 : 1 ≤ kk ∧ kk + 3 + M[j].t.who.length ≤ 3999990 := by have := hkk.out; omega
      have MT := Lib.hid (fun W => markText_any (kk + 2) W (by omega) (by omega))
      rw [show ((kk + 2 : Nat) : Int) = (kk : Int) + 1 + 1 by omega] at MT
      have HI := Lib.hid (fun W (h : Below wr.heap.size wr W) => heldInt64S_any C M[j].t.who.length c1 (kk + 3) W (hC.on h) (by omega) (by omega))
      rw [show ((kk + 3 : Nat) : Int) = (kk : Int) + 1 + 1 + 1 by omega] at HI
      clear hst hle hwp
      go_wp2_with (fail)
      obtain ⟨I, f, hI, g0, gk, gc, ge⟩ := class_grown wr
      have x2 := fun s => kept_cell (gk s) y2
      refine wp_region_kept f (by kernel_rfl) (by kernel_rfl) g0 ?_
      repeat (first
        | go_big_quiet_skip
        | (go_big_quiet_want; go_big_quiet_op; first
            | go_big_quiet_on
            | (apply Exists.intro; refine ⟨fun s => ?_, ?_⟩; (go_at_call 72; (with_reducible refine (MT.out _).mono ?_); rintro e w4 ⟨rfl, hb4⟩; exact ⟨rfl, gc _ _ hb4⟩); go_big_quiet_on)))
      refine wpQuiet_nil ?_
      intro w5 h5
      have hb5 := ge _ h5
      have z3 := kept_cell hb5 y3
      clear x2 gk gc ge g0 hI h5 y0 y1 y2 MT
      go_wp2_with (fail)
      refine (HI.out _ hb5).mono ?_
      rintro e w6 ⟨rfl, hb6⟩
      have hq : kk + 3 + M[j].t.who.length = k + wPs (M.take (j + 1)) := by have h1 := hST.out; have h2 := hkk.out; have h3 : wP M[j] = 3 + M[j].t.who.length := rfl; omega
      rw [hq]
      have hw6 := hb.trans ((hb5.trans (hb6.mono hb5.size)).mono hb.size)
      have hnn : ¬ (((k + wPs (M.take (j + 1)) : Nat) : Int) < 0) := by omega
      clear z3 y3 HI hb5 hb6
      go_wp2
      exact ⟨⟨j + 1, by omega, by go_num, rfl, hw6⟩, by simp [intOf]; omega⟩
    · obtain rfl : j = M.length := by omega
      go_wp2
      go_ret
      exact ⟨by rw [List.take_of_length_le (Nat.le_refl _)]; rfl, hb⟩
end Go.Proofs.YtjnbhppnchmeoaaDoor
