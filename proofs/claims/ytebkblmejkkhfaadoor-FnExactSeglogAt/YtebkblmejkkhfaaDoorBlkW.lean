/- Plain facts on frames one behind the other. Blocks of memory that are known whole, rows of words, and how they are kept. -/
import Derived.Test.YtebkblmejkkhfaaDoorGtW
import Derived.Test.YtebkblmejkkhfaaDoorDecW
import Derived.Deep.QuietTactic
import Derived.BigQuiet
import Derived.IntWalk
import Derived.Deep.Draws
import Derived.Laws.OwnMore
import Derived.Laws.Rows
import Derived.Laws.Tables
namespace Go.Proofs.YtebkblmejkkhfaaDoor
open Go.RowKit
set_option linter.unusedVariables false

theorem rd_low {s : ByteArray} {p : Nat} : ∀ (n k u : Nat) {u' m : Nat}, rd s p n k u = .ok (u', m) → k < m ∧ (1 < m → 2 ^ (7 * (m - 1)) ≤ u') := by
  intro n
  induction n with
  | zero => intro k u u' m h; simp [rd] at h
  | succ n ih =>
    intro k u u' m h
    rw [rd] at h
    split at h
    · rename_i hlt
      split at h
      · cases h
      · split at h
        · split at h
          · cases h
          · rename_i hz
            cases h
            refine ⟨by omega, fun hm => ?_⟩
            have hb : 1 ≤ s[p + k].toNat := by omega
            have := Nat.mul_le_mul_right (2 ^ (7 * k)) hb
            rw [Nat.add_sub_cancel]
            omega
        · have := ih _ _ h
          exact ⟨by omega, this.2⟩
    · cases h
theorem rd_cut {s : ByteArray} {p e : Nat} (he : e ≤ s.size) (h2 : p + 10 ≤ e ∨ e = s.size) : ∀ (n k u : Nat), k + n ≤ 10 → rd (s.extract p e) 0 n k u = rd s p n k u := by
  intro n
  induction n with
  | zero => intro k u _; rfl
  | succ n ih =>
    intro k u hk
    have hsz : (s.extract p e).size = e - p := by simp; omega
    rw [rd, rd]
    by_cases h : p + k < s.size
    · have h' : 0 + k < (s.extract p e).size := by omega
      have hb : (s.extract p e)[0 + k] = s[p + k] := by
        rw [ByteArray.getElem_extract]
        simp
      rw [dif_pos h, dif_pos h', hb, ih _ _ (by omega)]
    · have h' : ¬ 0 + k < (s.extract p e).size := by omega
      rw [dif_neg h, dif_neg h']
theorem extract_cut {s : ByteArray} {p e a b : Nat} (he : p + b ≤ e) : (s.extract p e).extract a b = s.extract (p + a) (p + b) := by
  rw [ByteArray.extract_extract]
  congr 1
  omega

theorem fr_err {s : ByteArray} {p : Nat} {c : Int} (h : fr s p = .error c) : c ≠ 0 := by
  unfold fr at h
  cases hg : gt s p with
  | error d => rw [hg] at h; cases h; exact gt_err hg
  | ok x =>
    obtain ⟨t, q⟩ := x
    rw [hg] at h
    simp only [frU] at h
    cases hu : uns t with
    | error d => rw [hu] at h; cases h; exact uns_err hu
    | ok x =>
      rw [hu] at h
      simp only at h
      split at h
      · cases h; omega
      · cases h
theorem fr_ok {s : ByteArray} {p : Nat} {t : ByteArray} {q : Nat} (h : fr s p = .ok (t, q)) : p < q ∧ q ≤ s.size ∧ t.size ≤ 1000 := by
  unfold fr gt at h
  cases hr : rd s p 10 0 0 with
  | error c => rw [hr] at h; cases h
  | ok x =>
    obtain ⟨u, m⟩ := x
    have hm := (rd_low _ _ _ hr).1
    rw [hr] at h
    simp only at h
    by_cases h1 : unzig u < 0 ∨ 20000 < unzig u
    · rw [if_pos h1] at h; cases h
    · rw [if_neg h1] at h
      by_cases h2 : s.size < p + m + (unzig u).toNat
      · rw [if_pos h2] at h; cases h
      · rw [if_neg h2] at h
        simp only [frU] at h
        split at h
        · cases h
        · split at h
          · cases h
          · cases h
            exact ⟨by omega, by omega, by omega⟩
/-- A frame is read alike in a cut that holds the greatest frame. -/
theorem fr_cut {s : ByteArray} {p : Nat} (hp : p ≤ s.size) :
    (∀ t q, fr s p = .ok (t, q) → fr (s.extract p (min (p + 1006) s.size)) 0 = .ok (t, q - p)) ∧ (∀ c, fr s p = .error c → ∃ d, fr (s.extract p (min (p + 1006) s.size)) 0 = .error d) := by
  obtain ⟨e, he⟩ : ∃ e, min (p + 1006) s.size = e := ⟨_, rfl⟩
  rw [he]
  have he1 : e ≤ s.size := by omega
  have he2 : p + 10 ≤ e ∨ e = s.size := by omega
  have hsz : (s.extract p e).size = e - p := by simp; omega
  have hrd := rd_cut (s := s) (p := p) he1 he2 10 0 0 (by omega)
  unfold fr gt
  rw [hrd]
  cases hr : rd s p 10 0 0 with
  | error c => exact ⟨fun t q h => (by cases h), fun d h => ⟨_, rfl⟩⟩
  | ok x =>
    obtain ⟨u, m⟩ := x
    have hm := rd_low _ _ _ hr
    simp only
    by_cases h1 : unzig u < 0 ∨ 20000 < unzig u
    · simp only [if_pos h1]; exact ⟨fun t q h => (by cases h), fun d h => ⟨_, rfl⟩⟩
    · rw [if_neg h1, if_neg h1]
      obtain ⟨N, hN⟩ : ∃ N, (unzig u).toNat = N := ⟨_, rfl⟩
      have hNu : u = 2 * N := by
        have h3 : ¬ unzig u < 0 := by omega
        unfold unzig at h3 hN
        split at h3
        · omega
        · rename_i h4; rw [if_neg h4] at hN; omega
      rw [hN, hsz]
      by_cases h2 : s.size < p + m + N
      · rw [if_pos h2, if_pos (by omega)]; exact ⟨fun t q h => (by cases h), fun d h => ⟨_, rfl⟩⟩
      · rw [if_neg h2]
        by_cases h3 : N ≤ 1004
        · have hm2 : m ≤ 2 := by
            rcases Nat.lt_or_ge 2 m with h4 | h4
            · have h5 := hm.2 (by omega)
              have h6 : 2 ^ 14 ≤ 2 ^ (7 * (m - 1)) := Nat.pow_le_pow_right (by omega) (by omega)
              have h7 : (2 : Nat) ^ 14 = 16384 := by decide
              omega
            · exact h4
          rw [if_neg (by omega)]
          simp only
          have e1 : (s.extract p e).extract (0 + m) (0 + m + N) = s.extract (p + m) (p + m + N) := by
            rw [extract_cut (by omega)]
            congr 1
            · omega
            · omega
          rw [e1]
          unfold frU
          cases hu : uns (s.extract (p + m) (p + m + N)) with
          | error c => exact ⟨fun t q h => (by cases h), fun d h => ⟨_, rfl⟩⟩
          | ok x =>
            simp only
            split
            · exact ⟨fun t q h => (by cases h), fun d h => ⟨_, rfl⟩⟩
            · refine ⟨fun t q h => ?_, fun d h => (by cases h)⟩
              cases h
              congr 2
              omega
        · have key : ∀ (t : ByteArray) (r : Nat), t.size = N → ∃ d, frU t r = .error d := by
            intro t r ht
            unfold frU
            cases hu : uns t with
            | error c => exact ⟨_, rfl⟩
            | ok x =>
              have := uns_ok hu
              simp only
              rw [if_pos (by omega)]
              exact ⟨_, rfl⟩
          have z1 : (s.extract (p + m) (p + m + N)).size = N := by simp; omega
          obtain ⟨d, hd⟩ := key _ (p + m + N) z1
          refine ⟨fun t q h => ?_, fun c h => ?_⟩
          · simp only [hd] at h; cases h
          · by_cases h5 : e - p < 0 + m + N
            · rw [if_pos h5]; exact ⟨_, rfl⟩
            · rw [if_neg h5]
              simp only
              exact key _ _ (by simp; omega)

/-- The frames from p on: each string, and the offset behind its frame. -/
noncomputable def frs (s : ByteArray) (p : Nat) : List (ByteArray × Nat) :=
  match fr s p with
  | .error _ => []
  | .ok (t, q) => if h : p < q ∧ q ≤ s.size then (t, q) :: frs s q else []
termination_by s.size - p
decreasing_by omega
theorem frs_err {s : ByteArray} {p : Nat} {c : Int} (h : fr s p = .error c) : frs s p = [] := by rw [frs, h]
theorem frs_ok {s : ByteArray} {p : Nat} {t : ByteArray} {q : Nat} (h : fr s p = .ok (t, q)) : frs s p = (t, q) :: frs s q := by
  have := fr_ok h
  rw [frs, h]
  simp only
  rw [dif_pos ⟨this.1, this.2.1⟩]
theorem frs_len {s : ByteArray} : ∀ (n p : Nat), s.size - p ≤ n → (frs s p).length ≤ n := by
  intro n
  induction n with
  | zero =>
    intro p hp
    cases h : fr s p with
    | error c => rw [frs_err h]; simp
    | ok x => obtain ⟨t, q⟩ := x; have := fr_ok h; omega
  | succ n ih =>
    intro p hp
    cases h : fr s p with
    | error c => rw [frs_err h]; simp
    | ok x =>
      obtain ⟨t, q⟩ := x
      have := fr_ok h
      rw [frs_ok h]
      simp
      exact ih q (by omega)
def endOf (l : List (ByteArray × Nat)) : Nat := (l.getLast?.map Prod.snd).getD 0
theorem endOf_snoc (l : List (ByteArray × Nat)) (x : ByteArray × Nat) : endOf (l ++ [x]) = x.2 := by simp [endOf]
end Go.Proofs.YtebkblmejkkhfaaDoor

namespace Go.Proofs.YtebkblmejkkhfaaDoor
open Go.RowKit
set_option linter.unusedVariables false

/-- Block g holds just these cells, none of them frozen. -/
def Blk (w : World) (g : Nat) (t : TypeId) (cs : List Value) : Prop := w.heap[g]? = some (.cells cs.toArray t (0, 0))
section
variable {w w' : World} {g : Nat} {t : TypeId} {cs : List Value}
theorem Blk.lt (h : Blk w g t cs) : g < w.heap.size := by
  rcases Nat.lt_or_ge g w.heap.size with hl | hl
  · exact hl
  · unfold Blk at h; rw [Array.getElem?_eq_none hl] at h; cases h
theorem Blk.cell (h : Blk w g t cs) {i : Nat} {v : Value} (hi : cs[i]? = some v) : w.cell? ⟨g, i, none⟩ = some v := by
  rw [cell_of_row w g i _ t (0, 0) h]; simpa using hi
theorem Blk.froz (h : Blk w g t cs) (i : Nat) : w.frozen? ⟨g, i, none⟩ = false := by
  unfold Blk at h; simp [World.frozen?, h]
theorem Blk.heap (h : Blk w g t cs) : w.heap[g]? = some (.cells cs.toArray t (0, 0)) := h
theorem Blk.drewN (h : Blk w g t cs) (n : Nat) : Blk (w.drewN n) g t cs := h
theorem Blk.drew (h : Blk w g t cs) : Blk w.drew g t cs := h
theorem Blk.alloc (h : Blk w g t cs) (o : Obj) : Blk (w.alloc o) g t cs := (Below.heap_alloc w o g h.lt).trans h
theorem Blk.fresh (w : World) (t : TypeId) (cs : List Value) : Blk (w.alloc (.cells cs.toArray t)) w.heap.size t cs := by
  unfold Blk; show (w.heap.push _)[w.heap.size]? = _; simp
theorem Blk.put (h : Blk w g t cs) (i : Nat) (u : Value) : Blk (w.setCell ⟨g, i, none⟩ u) g t (cs.set i u) := by
  unfold Blk at h ⊢; simp [World.setCell, Array.getElem?_modify, h]
theorem Blk.far (h : Blk w g t cs) {p : Addr} (hp : g ≠ p.block) (u : Value) : Blk (w.setCell p u) g t cs := (Below.heap_setCell w p u g hp).trans h
theorem Blk.below {B : Nat} (h : Blk w g t cs) (hb : Below B w w') (hg : g < B) : Blk w' g t cs := (hb.block g hg).trans h
theorem Blk.grown {row : Option Nat} (h : Blk w g t cs) (hb : w.grownBy w' row) (hg : some g ≠ row) : Blk w' g t cs := (hb.block g h.lt hg).trans h
theorem Blk.setRow (h : Blk w g t cs) (ds : List Value) : Blk (w.setRow g ds.toArray) g t ds := setRow_heap w g _ _ t (0, 0) h
theorem Blk.row_far (h : Blk w g t cs) {k : Nat} (hk : g ≠ k) (ds : Array Value) : Blk (w.setRow k ds) g t cs := (setRow_other w k g ds hk).trans h
end
theorem below_drewN {B : Nat} {a w : World} (h : Below B a w) (n : Nat) : Below B a (w.drewN n) := ⟨h.os, h.tape, h.output, h.size, h.block⟩
theorem below_drew {B : Nat} {a w : World} (h : Below B a w) : Below B a w.drew := ⟨h.os, h.tape, h.output, h.size, h.block⟩
theorem quiet_eq {P : Program} {f : FuncId} {args : Array Value} {w : World} {n : Nat} {v : Value}
    (h : Calls P f args (w.drewN n) fun e w' => e = .returned v ∧ w.drewN n = w') : Calls P f args (w.drewN n) fun e w'' => e = .returned v ∧ ∃ m, w'' = w.drewN m :=
  h.mono fun _ _ ⟨he, hm⟩ => ⟨he, n, hm.symm⟩

/-- A whole value stored into the block that was made last. -/
theorem wpList_store_new {P : Program} {ops : Array Oper} {rest : List Oper} {o : Oper} {a : Act} {w : World} {Q : Exit → Act → World → Prop} (hgd : o.guard = none) (ty : TypeId) (x y : Operand) (ho : o.op = .store ty x y)
    (old : Array Value) (t : TypeId) (cells : List Value) (hx : a.eval x = .pointer (some ⟨w.heap.size, 0, none⟩)) (hy : a.eval y = .agg cells.toArray)
    (hi : (P.info? ty).map (·.size) = some cells.toArray.size) (hold : old.size = cells.toArray.size) (h1 : cells.toArray.all (·.oneCell') = true)
    (h : ∀ w2, Blk w2 w.heap.size t cells → Below w.heap.size w w2 → wpList P ops Q rest (a.put o.dst undef) w2) : wpList P ops Q (o :: rest) a (w.alloc (.cells old t)) := by
  have hn : Blk (w.alloc (.cells old t)) w.heap.size t old.toList := by
    have := Blk.fresh w t old.toList
    simpa using this
  refine wpList_store_row hgd ty x y ho w.heap.size cells.toArray hx hy t old (by simpa using hn.heap) hi hold h1 (h _ (hn.setRow cells) ?_)
  exact below_setRow ((Below.refl _ _).alloc (Nat.le_refl _) _) (Nat.le_refl _) _

/-- n cells, each an integer of one kind. -/
def ints (k : IntKind) (n : Nat) (f : Nat → Int) : List Value := (List.range n).map fun i => Value.int k (f i)
theorem ints_len (k : IntKind) (n : Nat) (f : Nat → Int) : (ints k n f).length = n := by simp [ints]
theorem ints_get {k : IntKind} {n : Nat} {f : Nat → Int} {i : Nat} (h : i < n) : (ints k n f)[i]? = some (.int k (f i)) := by simp [ints, h]
theorem ints_set {k : IntKind} {n : Nat} {f : Nat → Int} {i : Nat} {v : Int} (h : i < n) : (ints k n f).set i (.int k v) = ints k n (fun j => if j = i then v else f j) := by
  apply List.ext_getElem?
  intro j
  unfold ints
  rw [List.getElem?_set]
  by_cases hj : i = j
  · subst hj; simp [h]
  · simp [hj]
    by_cases hn : j < n
    · simp [hn, Ne.symm hj]
    · simp [hn]
theorem ints_congr {k : IntKind} {n : Nat} {f g : Nat → Int} (h : ∀ i, i < n → f i = g i) : ints k n f = ints k n g := by
  unfold ints; apply List.map_congr_left; intro i hi; rw [h i (by simpa using hi)]
theorem ints_one (k : IntKind) (n : Nat) (f : Nat → Int) : (ints k n f).toArray.all (·.oneCell') = true := by
  simp [ints, Value.oneCell']
end Go.Proofs.YtebkblmejkkhfaaDoor
