/- A region that draws its order: a head whose operations are quiet in a class of worlds, and a tail that comes in the text's order behind all of it (and may write, make memory or panic): one walk. spec.CommandRead. Places in memory, and rows of a call, whatever they hold. Rows that calls have made, told by where they lie: what is written into one leaves the others as they are. -/
import Derived.Test.YtjnbhppnchmeoaaDoorRdW
import Derived.StillTail
import Derived.Test.YtjnbhppnchmeoaaDoorCmBW
import Derived.Deep.RegionHeld3
import Derived.BigRegion
import Derived.Deep.Slices
import Derived.Deep.Fields
import Derived.OwnWalk
namespace Go.Proofs.YtjnbhppnchmeoaaDoor
open Go.RowKit
set_option linter.unusedVariables false
section
variable {P : Program} {ops : Array Oper} {md : Region.Mode} {C : World → Prop}

/-- Whatever order the head is taken in. -/
def headAny (P : Program) (md : Region.Mode) (ops : Array Oper) (C : World → Prop) (n : Nat) (L : Array Bool → Act → Prop) : Nat → Array Bool → Act → Prop
  | 0, ls, a => L ls a
  | f + 1, ls, a => Region.ready md ops ls ≠ [] ∧ ∀ i ∈ Region.ready md ops ls, i < n ∧ qOp P ops C i (headAny P md ops C n L f (ls.setIfInBounds i true)) a
theorem any_of_headAny {n g : Nat} {L : Array Bool → Act → Prop} {Q : Exit → Act → World → Prop} (hL : ∀ ls a w, C w → L ls a → wpAny P md ops Q g ls a w) :
    ∀ (f : Nat) (ls : Array Bool) (a : Act) (w : World), C w → headAny P md ops C n L f ls a → wpAny P md ops Q (f + g) ls a w := by
  intro f
  induction f with
  | zero => intro ls a w hC h; rw [Nat.zero_add]; exact hL _ _ _ hC h
  | succ f ih =>
    intro ls a w hC h
    have e : f + 1 + g = (f + g) + 1 := by omega
    rw [e]
    exact ⟨fun h0 => absurd h0 h.1, fun i hi => wpOp_of_qOp hC (fun a' w' hw' h' => ih _ a' w' hw' h') (h.2 i hi).2⟩
theorem headAny_first {n i : Nat} {oi : Oper} {v : Value} {L : Array Bool → Act → Prop} (hi : ops[i]? = some oi) (hsel : ∀ (j : Nat) (o : Oper) cs b, ops[j]? = some o → o.op ≠ .select cs b)
    (hs : Region.sinkB md ops n = true) (hc : Region.chainB md ops n = true) (hn : n < ops.size) (hin : i < n) (hdone : ∀ ls a, L ls a → ∀ j ∈ Region.ready md ops ls, n ≤ j) :
    ∀ (f : Nat) (ls : Array Bool) (a : Act), HeadInv md ops n ls →
      (∀ j oj, ops[j]? = some oj → j ≠ i → ls.getD j true = false → (∀ e ∈ oj.after, Region.binds md e = true → e.on ≠ i) → oi.apart ops oj = true) →
      i ∈ Region.ready md ops ls → YieldsIn P ops C oi v a → headAny P md ops C n L f (ls.setIfInBounds i true) (a.put oi.dst v) → headAny P md ops C n L (f + 1) ls a := by
  intro f
  induction f with
  | zero =>
    intro ls a inv _ hr hy H
    have hun := (mem_ready.1 hr).1
    refine ⟨List.ne_nil_of_mem hr, fun j hj => ?_⟩
    have hjn : j < n := Nat.lt_of_not_le fun h => tail_waits hs hc hn inv _ i rfl hin hun j h hj
    refine ⟨hjn, ?_⟩
    by_cases hji : j = i
    · subst hji; exact hy.qOp hi H
    · exact absurd (hdone _ _ H j (ready_mono hj hji)) (by omega)
  | succ f ih =>
    intro ls a inv hfree hr hy H
    have hun := (mem_ready.1 hr).1
    refine ⟨List.ne_nil_of_mem hr, fun j hj => ?_⟩
    have hjn : j < n := Nat.lt_of_not_le fun h => tail_waits hs hc hn inv _ i rfl hin hun j h hj
    refine ⟨hjn, ?_⟩
    by_cases hji : j = i
    · subst hji; exact hy.qOp hi H
    · obtain ⟨hjun, oj, hoj, hall⟩ := mem_ready.1 hj
      have hnot : ∀ e ∈ oj.after, Region.binds md e = true → e.on ≠ i := fun e he hb heq => by
        have h1 := hall e he hb
        rw [heq, getD_both hun] at h1
        cases h1
      have h2 := qOp_put hoj (hfree j oj hoj hji hjun hnot) (fun cs b => hsel i oi cs b hi) (fun cs b => hsel j oj cs b hoj) hy (H.2 j (ready_mono hj hji)).2
      refine qOp_mono (fun a' h3 => ih (ls.setIfInBounds j true) a' (inv.set hj hjn) (fun k ok hk hki hun' hno => hfree k ok hk hki ?_ hno) (ready_mono hr (Ne.symm hji)) h3.1 ?_) h2
      · by_cases hjk : j = k
        · subst hjk; exact hjun
        · rw [getD_set_ne true hjk] at hun'; exact hun'
      · rw [Array.setIfInBounds_comm _ _ hji]
        exact h3.2
theorem headAny_lex {n g : Nat} {Lq : Act → Prop} (hsel : Region.noSelect ops = true) (hs : Region.sinkB md ops n = true) (hc : Region.chainB md ops n = true) (hn : n < ops.size) :
    ∀ (l : List Oper) (k : Nat) (ls : Array Bool) (a : Act), (∀ j, j < l.length → l[j]? = ops[k + j]?) → k + l.length = n → HeadInv md ops n ls →
    Region.lexHead md ops g l.length k ls = true → wpQuiet P ops C Lq l a → headAny P md ops C n (fun ls' a' => Region.seqB md ops g n ls' = true ∧ Lq a') l.length ls a := by
  intro l
  induction l with
  | nil =>
    intro k ls a _ hk _ hB h
    obtain rfl : k = n := by simpa using hk
    exact ⟨by simpa [Region.lexHead] using hB, h⟩
  | cons o l ih =>
    intro k ls a hl hk inv hB h
    have h0 : ops[k]? = some o := by simpa using (hl 0 (by simp)).symm
    simp only [List.length_cons, Region.lexHead, Bool.and_eq_true] at hB
    obtain ⟨⟨hr, hf⟩, hB'⟩ := hB
    simp only [List.length_cons] at hk
    have hr' : k ∈ Region.ready md ops ls := by simpa using hr
    have hst : qOp P ops C k (wpQuiet P ops C Lq l) a := by unfold qOp; simp only [h0]; exact h
    obtain ⟨v, hy, hK⟩ := yieldsIn_of_qOp h0 hst
    refine headAny_first h0 (Region.noSelect_spec hsel) hs hc hn (by omega) (fun ls' a' hL => seqB_ready hL.1) l.length ls a inv (Region.free_spec h0 hf) hr' hy (ih (k + 1) _ _ (fun j hj => ?_) (by omega) (inv.set hr' (by omega)) hB' hK)
    have := hl (j + 1) (by simp; omega)
    simpa [Nat.add_assoc, Nat.add_comm 1 j] using this
theorem wp_region_class_tail {id : Nat} {Q : Exit → Act → World → Prop} {a : Act} {w : World} {l : List Oper} (n : Nat) (hm : P.follows .mixedOrders = true) (hB : Region.lexTailB .any l.toArray n = true) (hC : C w.drew)
    (h : wpQuiet P l.toArray C (fun a' => ∀ w', C w' → wpList P l.toArray Q (l.drop n) a' w') (l.take n) a) : (Code.region id l.toArray true).wp P Q a w := by
  simp only [Region.lexTailB, Bool.and_eq_true, decide_eq_true_eq] at hB
  obtain ⟨⟨⟨⟨hsel, hn⟩, hs⟩, hc⟩, hlex⟩ := hB
  have hn' : n < l.length := by simpa using hn
  have htl : (l.take n).length = n := by simp; omega
  have hdl : (l.drop n).length = l.toArray.size - n := by simp
  have inv0 : HeadInv .any l.toArray n (Array.replicate l.toArray.size false) :=
    ⟨by simp, fun j oj _ hl => (by rw [getD_replicate_false] at hl; cases hl), fun t _ ht => getD_in (by simpa using ht) (getD_replicate_false _ _)⟩
  have H := headAny_lex (C := C) (md := .any) (g := l.toArray.size - n) hsel hs hc hn (l.take n) 0 _ a (fun j hj => by
    have hj' : j < n := by rw [htl] at hj; exact hj
    simp [hj']) (by simpa using htl) inv0 (by rw [htl]; exact hlex) h
  refine wp_region_any hm ?_
  have := any_of_headAny (Q := Q) (g := l.toArray.size - n) (fun ls a' w' hw' hL => by
    have := wpAny_of_seq (md := .any) (Q' := Q) (l.drop n) n ls a' w' (fun j => by simp [List.getElem?_drop]) (by rw [hdl]; exact hL.1) (hL.2 w' hw')
    rwa [hdl] at this) _ _ _ w.drew hC H
  rw [htl, show n + (l.toArray.size - n) = l.toArray.size by omega] at this
  exact this
end
end Go.Proofs.YtjnbhppnchmeoaaDoor

namespace Go.Proofs.YtjnbhppnchmeoaaDoor
open Go.RowKit
set_option linter.unusedVariables false
set_option linter.unusedSimpArgs false
set_option maxRecDepth 1000000

theorem specNum_any (r : Nat) (s : ByteArray) (o : Option Nat) (w : World) (hR : Rdr 42 w r s o) (hs : s.size ≤ 20000) :
    Calls Tryd.prog 17 #[.pointer (some ⟨r, 0, none⟩)] w fun e w' => e = .returned (.int .i64 (rN s o).1) ∧ Rdr 42 w' r s (rN s o).2 ∧ w.grownBy w' (some r) := by
  cases o with
  | none =>
    obtain ⟨q, h1, h2⟩ := hR
    have GN := Lib.hid (fun W => specGetNum_any s q W hs (by omega))
    cases hr : rd s q 10 0 0 with
    | error c =>
      rw [hr] at GN
      exact (specNum_bad r s q 0 0 c w h2 GN).mono fun e w' ⟨e1, e2, e3⟩ => ⟨e1, ⟨q, h1, e2⟩, e3⟩
    | ok x =>
      obtain ⟨u, m⟩ := x
      rw [hr] at GN
      exact (specNum_bad r s q (unzig u) ((q : Int) + m) 0 w h2 GN).mono fun e w' ⟨e1, e2, e3⟩ => ⟨e1, ⟨q, h1, e2⟩, e3⟩
  | some p =>
    have hp := hR.2
    have GN := Lib.hid (fun W => specGetNum_any s p W hs (by omega))
    cases hr : rd s p 10 0 0 with
    | error c =>
      have hc := rd_err_ne _ _ _ hr
      rw [hr] at GN
      refine (specNum_err r s p 0 0 c w hR.1 (by simpa using hc) GN).mono fun e w' ⟨e1, e2, e3⟩ => ?_
      simp only [rN, hr]
      exact ⟨e1, ⟨p, hp, e2⟩, e3⟩
    | ok x =>
      obtain ⟨u, m⟩ := x
      have hm := rd_within _ _ _ hr
      rw [hr] at GN
      refine (specNum_ok r s p (unzig u) ((p : Int) + m) 0 w hR.1 rfl GN).mono fun e w' ⟨e1, e2, e3⟩ => ?_
      simp only [rN, hr]
      exact ⟨e1, ⟨e2, hm⟩, e3⟩
theorem specText_any (r : Nat) (s : ByteArray) (o : Option Nat) (w : World) (hR : Rdr 42 w r s o) (hs : s.size ≤ 20000) :
    Calls Tryd.prog 18 #[.pointer (some ⟨r, 0, none⟩)] w fun e w' => e = .returned (.string (rT s o).1) ∧ Rdr 42 w' r s (rT s o).2 ∧ w.grownBy w' (some r) := by
  cases o with
  | none =>
    obtain ⟨q, h1, h2⟩ := hR
    have GN := Lib.hid (fun W => specGetText_gt s q W hs (by omega))
    cases hr : gt s q with
    | error c =>
      rw [hr] at GN
      exact (specText_bad r s q ⟨#[]⟩ 0 c w h2 GN).mono fun e w' ⟨e1, e2, e3⟩ => ⟨e1, ⟨q, h1, e2⟩, e3⟩
    | ok x =>
      obtain ⟨t, m⟩ := x
      rw [hr] at GN
      exact (specText_bad r s q t m 0 w h2 GN).mono fun e w' ⟨e1, e2, e3⟩ => ⟨e1, ⟨q, h1, e2⟩, e3⟩
  | some p =>
    have hp := hR.2
    have GN := Lib.hid (fun W => specGetText_gt s p W hs (by omega))
    cases hr : gt s p with
    | error c =>
      have hc := gt_err hr
      rw [hr] at GN
      refine (specText_err r s p ⟨#[]⟩ 0 c w hR.1 (by simpa using hc) GN).mono fun e w' ⟨e1, e2, e3⟩ => ?_
      simp only [rT, hr]
      exact ⟨e1, ⟨p, hp, e2⟩, e3⟩
    | ok x =>
      obtain ⟨t, m⟩ := x
      have hm := (gt_ok hr).2.2
      rw [hr] at GN
      refine (specText_ok r s p t m 0 w hR.1 rfl GN).mono fun e w' ⟨e1, e2, e3⟩ => ?_
      simp only [rT, hr]
      exact ⟨e1, ⟨e2, hm⟩, e3⟩
theorem str_eq_b (a b : ByteArray) : (a.toList == b.toList) = decide (a = b) := by
  by_cases h : a = b
  · simp [h]
  · have : (a.toList == b.toList) = false := by rw [beq_eq_false_iff_ne]; intro e; rw [Lib.toList_data, Lib.toList_data] at e; exact h (ByteArray.ext (Array.toList_inj.1 e))
    rw [this]; simp [h]
theorem good_some {s : ByteArray} {q : Nat} (h : (readC s).2 = some q) : goodR s = ((cmdBytes (readC s).1).toList == s.toList) := by
  obtain ⟨h1, h2, h3⟩ := readC_enc h
  rw [str_eq_b]
  unfold goodR
  rw [h]
  cases hc : cmdB (readC s).1
  · have hb : cmdBytes (readC s).1 = ⟨#[]⟩ := by simp [cmdBytes, hc]
    rw [hb, Bool.and_false]
    refine (decide_eq_false ?_).symm
    intro e
    have : s.size = 0 := by rw [← e]; rfl
    omega
  · have hb : cmdBytes (readC s).1 = s.extract 0 q := by simp [cmdBytes, hc, h1]
    rw [hb, Bool.and_true]
    by_cases e : q = s.size
    · subst e
      rw [decide_eq_true (by apply ByteArray.ext; rw [ByteArray.data_extract]; exact Array.extract_size)]
      simp
    · rw [decide_eq_false]
      · simp [e]
      · intro e2
        have e3 : (s.extract 0 q).size = s.size := by rw [e2]
        simp at e3
        omega
theorem good_none {s : ByteArray} (h : (readC s).2 = none) : goodR s = false := by unfold goodR; rw [h]; rfl
theorem read_ne {s : ByteArray} {q : Nat} (h : (readC s).2 = some q) : emptyB s = false := by
  obtain ⟨h1, h2, h3⟩ := readC_enc h
  exact decide_eq_false (by omega)

end Go.Proofs.YtjnbhppnchmeoaaDoor

namespace Go.Proofs.YtjnbhppnchmeoaaDoor
open Go.RowKit
set_option linter.unusedVariables false

theorem add_blk (a : Addr) (n : Nat) : (a.add n).block = a.block := by unfold Addr.add; split <;> rfl
theorem add_none (g off i : Nat) : (⟨g, off, none⟩ : Addr).add i = ⟨g, off + i, none⟩ := by
  unfold Addr.add
  split
  · rename_i h; subst h; rfl
  · rfl
theorem cellsStr : Tryd.prog.cellsOf 9 = 1 := by kernel_rfl
theorem cellsI64 : Tryd.prog.cellsOf 2 = 1 := by kernel_rfl
theorem ofNat_add (a : Addr) (i j : Nat) : (a.add i).add j = a.add (i + j) := Go.Deep.add_add a i j
theorem add_far (a : Addr) (n m : Nat) : (⟨(a.add n).block, (a.add n).off + (m + 1), none⟩ : Addr) = a.add (n + (m + 1)) := by
  rw [← ofNat_add]; rfl
theorem grown_none {w w' : World} {B : Nat} (hb : Below B w w') (hB : w.heap.size ≤ B) : w.grownBy w' none := ⟨hb.os, hb.tape, hb.output, hb.size, fun k hk _ => hb.block k (by omega)⟩
theorem row_below {w w' : World} {B base n size : Nat} {e : TypeId} {v : Value} {xs : List Value} (h : w.ownsRow base e size v n xs) (hb : Below B w w') (hB : w.heap.size ≤ B) : w'.ownsRow base e size v n xs :=
  h.kept (grown_none hb hB) (by cases v.ownBlock <;> simp)
theorem take_put {α : Type} (L : List α) (z : α) {k : Nat} (h : k < L.length) : (L.take k ++ List.replicate (L.length - k) z).set k L[k] = L.take (k + 1) ++ List.replicate (L.length - (k + 1)) z := by
  rw [List.set_append_right _ _ (by simp; omega)]
  simp only [List.length_take, show k - min k L.length = 0 by omega, show L.length - k = (L.length - (k + 1)) + 1 by omega, List.replicate_succ, List.set_cons_zero]
  rw [List.take_succ_eq_append_getElem h, List.append_assoc]
  rfl
theorem row_far {w : World} {base n size : Nat} {e : TypeId} {v : Value} {xs : List Value} (h : w.ownsRow base e size v n xs) {p : Addr} (hp : p.block < base) (u : Value) : (w.setCell p u).ownsRow base e size v n xs :=
  h.kept (row := some p.block) ⟨rfl, rfl, rfl, by simp [World.setCell], fun k _ hne => Below.heap_setCell w p u k (fun e => hne (by rw [e]))⟩ (.inr fun e => by have := (h.lt _ e).1; omega)
theorem own_base {w : World} {base base' n size : Nat} {e : TypeId} {v : Value} {xs : List Value} (h : w.ownsRow base e size v n xs) (hb : base' ≤ base) : w.ownsRow base' e size v n xs := by
  obtain ⟨h0, h1⟩ := h
  refine ⟨h0, ?_⟩
  rcases h1 with h1 | ⟨g, cap, cur, r1, r2, r3⟩
  · exact .inl h1
  · exact .inr ⟨g, cap, cur, r1, by omega, r3⟩
end Go.Proofs.YtjnbhppnchmeoaaDoor

namespace Go.Proofs.YtjnbhppnchmeoaaDoor
open Go.RowKit
set_option linter.unusedVariables false

/-- A row of the call's own, between block lo and block hi. -/
def Rw (w : World) (lo hi : Nat) (e : TypeId) (size : Nat) (v : Value) (n : Nat) (xs : List Value) : Prop := w.ownsRow lo e size v n xs ∧ ∀ k, v.ownBlock = some k → k < hi
section
variable {w w' : World} {lo hi : Nat} {e : TypeId} {size : Nat} {v : Value} {n : Nat} {xs : List Value}
theorem Rw.of (h : w.ownsRow lo e size v n xs) : Rw w lo w.heap.size e size v n xs := ⟨h, fun k hk => (h.lt k hk).2⟩
theorem Rw.below (h : Rw w lo hi e size v n xs) (hb : Below w.heap.size w w') : Rw w' lo hi e size v n xs := ⟨row_below h.1 hb (Nat.le_refl _), h.2⟩
theorem Rw.at (h : Rw w lo hi e size v n xs) : ∀ k, v.ownBlock = some k → lo ≤ k ∧ k < hi := fun k hk => ⟨(h.1.lt k hk).1, h.2 k hk⟩
theorem Rw.far (h : Rw w lo hi e size v n xs) {row : Option Nat} (hg : w.grownBy w' row) {lo' hi' : Nat} (hr : ∀ k, row = some k → lo' ≤ k ∧ k < hi') (ho : hi ≤ lo' ∨ hi' ≤ lo) : Rw w' lo hi e size v n xs :=
  ⟨h.1.kept hg (by
    cases hv : v.ownBlock with
    | none => exact .inl rfl
    | some k =>
      refine .inr fun hk => ?_
      have h1 := h.at k hv
      have h2 := hr k hk.symm
      omega), h.2⟩
theorem Blk.off {g : Nat} {t : TypeId} {cs : List Value} (h : Blk w g t cs) {row : Option Nat} (hg : w.grownBy w' row) {lo' hi' : Nat} (hr : ∀ k, row = some k → lo' ≤ k ∧ k < hi') (ho : g < lo' ∨ hi' ≤ g) : Blk w' g t cs :=
  h.grown hg fun e => by have := hr g e.symm; omega
theorem below_off {B : Nat} {a : World} (h : Below B a w) {row : Option Nat} (hg : w.grownBy w' row) {lo' hi' : Nat} (hr : ∀ k, row = some k → lo' ≤ k ∧ k < hi') (ho : B ≤ lo') (hB : B ≤ a.heap.size) : Below B a w' :=
  h.grown hg (Nat.le_trans hB h.size) fun k e => by have := hr k e; omega
end
theorem own_blk (A : Option Addr) (n c : Nat) : (Value.slice A n c).ownBlock = A.map (·.block) := by cases A <;> rfl
theorem Rw.atA {w : World} {lo hi n m c size : Nat} {e : TypeId} {A : Option Addr} {xs : List Value} (h : Rw w lo hi e size (.slice A m c) n xs) : ∀ k, A.map (·.block) = some k → lo ≤ k ∧ k < hi := by
  rw [← own_blk A m c]; exact h.at
theorem Rw.capL {w : World} {lo hi n c : Nat} {e : TypeId} {size m : Nat} {a : Addr} {xs : List Value} (h : Rw w lo hi e size (.slice (some a) n c) m xs) : m ≤ c ∧ c ≤ maxLen := by
  rcases h.1.2 with ⟨hv, _⟩ | ⟨g, cap, cur, hv, hb, hg, hl, hm, _⟩
  · cases hv
  · cases hv; exact ⟨hl, hm⟩
end Go.Proofs.YtjnbhppnchmeoaaDoor
