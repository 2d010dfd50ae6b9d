/- Small facts on memory and bytes that the contracts of this seat share. Blocks of memory that are known whole, rows of words, and how they are kept. Rows of bytes that are known whole; joined. The source of the draws: what is known of it, and its methods n, one, bytes. -/
import Derived.Test.YtjnbhppnchmeoaaChecked
import Derived.WalkKit
import Derived.Below
import Derived.Lib.Hide
import Derived.Laws.BitsAllLaws
import Derived.Laws.Closers25b
import Derived.Laws.BytesArg
import Derived.Laws.CopyOwn
import Derived.Lib.BufferWrite
import Derived.Deep.QuietTactic
import Derived.BigQuiet
import Derived.IntWalk
import Derived.Deep.Draws
import Derived.Laws.OwnMore
import Derived.Laws.Rows
import Derived.Laws.Tables
import Derived.BigRegion
import Derived.RegionTactic
import Derived.Deep.AppendLies
import Derived.Maps.AppendAt
import Derived.ChangeSlices
import Derived.WideShapes
namespace Go.Proofs.Ytjnbhppnchmeoaa
open Go.RowKit
set_option linter.unusedVariables false

theorem retI {k : IntKind} {a b : Int} (h : a = b) : Ending.returned (.int k a) = .returned (.int k b) := by rw [h]
theorem retS {a b : ByteArray} (h : a = b) : Ending.returned (.string a) = .returned (.string b) := by rw [h]

theorem wf_i64 {n : Int} (h : (Lit.int .i64 n).wf = true) : -9223372036854775808 ≤ n ∧ n ≤ 9223372036854775807 := by
  simpa [Lit.wf, IntKind.min, IntKind.max, IntKind.signed, IntKind.bits] using h

/-- The bytes of an owned row of bytes. -/
theorem own_string {w : World} {base : Nat} {v : Value} {n : Nat} {ns : List Int} (h : w.ownsRow base 5 1 v n (ns.map (Value.int .u8))) :
    (convert 22 9 v).run Try.prog w = .ok (.string (strOfNums ns)) w := by
  obtain ⟨hl, hh⟩ := h
  simp at hl
  rcases hh with ⟨rfl, rfl⟩ | ⟨g, cap, cur, rfl, hg, hb, hn, hm, hs, ht⟩
  · have : ns = [] := by simpa using hl
    subst this
    exact run_convert_bytes_nil w 22 5 Try.underlying22 Try.underlying5 0 0 9 Try.underlying9
  · refine run_convert_bytes_arg w 22 5 Try.underlying22 Try.underlying5 g 0 n cap ns hl ?_ 9 Try.underlying9
    intro i hi
    have hown : w.ownsRow base 5 1 (.slice (some ⟨g, 0, none⟩) n cap) n (ns.map (Value.int .u8)) := ⟨by simpa using hl, .inr ⟨g, cap, cur, rfl, hg, hb, hn, hm, hs, ht⟩⟩
    have := hown.cellAt i (by omega)
    rw [Nat.zero_add, this, List.getElem?_map, List.getElem?_eq_getElem (by omega)]
    simp [List.getD, List.getElem?_eq_getElem (show i < ns.length by omega)]

theorem infoU8 : (Try.prog.info? 5).map (fun i => (i.zero, i.size, i.bytes)) = some (some (.int .u8 0), 1, 1) := by kernel_rfl

/-- One byte more behind an owned row: what an append leaves. -/
theorem own_snoc {w : World} {base : Nat} {v : Value} {n : Nat} {ns : List Int} {x : Int} (h : w.ownsRow base 5 1 v (n + 1) (ns.map (Value.int .u8) ++ [Value.int .u8 x])) :
    w.ownsRow base 5 1 v (n + 1) ((ns ++ [x]).map (Value.int .u8)) := by simpa using h

theorem one_cell (w : World) (o : Value) (t : TypeId) : ∀ j u, [o][j]? = some u → (w.alloc (.cells #[o] t)).cell? ((⟨w.heap.size, 0, none⟩ : Addr).add j) = some u := by
  intro j u hj
  match j, hj with
  | 0, hj => simp at hj; subst hj; simp [Addr.add]

theorem one_oneCell (k : IntKind) (x : Int) : ∀ u ∈ [Value.int k x], u.oneCell' = true := by intro u hu; simp at hu; subst hu; rfl
/-- Below, behind an append to a row that the call itself made. -/
theorem below_app {B : Nat} {w wr w1 : World} {e : TypeId} {size n : Nat} {v : Value} {xs : List Value} {o : Obj} (hb : Below B w wr) (hB : B ≤ w.heap.size) (hown : wr.ownsRow B e size v n xs) (hg : (wr.alloc o).grownBy w1 v.ownBlock) : Below B w w1 := by
  have hs := hb.size
  exact (hb.alloc (by omega) o).grown hg (by simp; omega) (fun k e => (hown.lt k e).1)
theorem retB {a b : Bool} (h : a = true ↔ b = true) : Ending.returned (.bool a) = .returned (.bool b) := by rw [Bool.eq_iff_iff.2 h]
theorem byte_le (s : ByteArray) (k : Nat) (h : k < s.size) : 0 ≤ (s[k].toNat : Int) ∧ (s[k].toNat : Int) ≤ 255 := by have := s[k].toNat_lt; omega
theorem take_snoc (s : ByteArray) (k : Nat) (h : k < s.size) : s.data.toList.take (k + 1) = s.data.toList.take k ++ [s[k]] := by
  rw [List.take_succ_eq_append_getElem (by simpa using h)]; rfl
theorem take_all (s : ByteArray) (k : Nat) (h : s.size ≤ k) : s.data.toList.take k = s.data.toList := List.take_of_length_le (by simpa using h)

/-- The copy of a string that fits into a row of the call's own. -/
theorem wpList_copy_str {P : Program} {w : World} {ops : Array Oper} {rest : List Oper} {o : Oper} {a : Act} {Q : Exit → Act → World → Prop} (hgd : o.guard = none) (d s : Operand) (dT sT : TypeId)
    (ho : o.op = .call { callee := .builtin .copy, args := #[d, s], argTypes := #[dT, sT] }) (elem : TypeId) (hu : P.underlying dT = some (.slice elem)) (hsz : (P.info? elem).map (·.size) = some 1)
    (dp : Option Addr) (dLen dCap : Nat) (str : ByteArray) (hd : a.eval d = .slice dp dLen dCap) (hs : a.eval s = .string str)
    (g off : Nat) (cur : List Value) (t : TypeId) (hg : w.heap[g]? = some (.cells cur.toArray t (0, 0))) (hn : str.size ≤ dLen)
    (hpos : 0 < str.size → dp = some ⟨g, off, none⟩) (hfit : off + str.size ≤ cur.length) (B : Nat) (w0 : World) (hb : Below B w0 w) (hBg : B ≤ g)
    (h : ∀ w', Hid (w'.heap[g]? = some (.cells (splice cur off (Lib.byteCells str.data.toList)).toArray t (0, 0))) → Below B w0 w' → wpList P ops Q rest (a.put o.dst (goInt str.size)) w') :
    wpList P ops Q (o :: rest) a w := by
  have hlen : (Lib.byteCells str.data.toList).length = str.size := by rw [Lib.byteCells_length, ← Lib.size_eq]
  by_cases h0 : str.size = 0
  · refine wpList_plain hgd fun K hK => ?_
    have hrun := Lib.run_copy_empty_string (P := P) w dT sT o.type elem dp dLen dCap str hu (by cases hq : P.info? elem <;> simp [hq] at hsz ⊢) h0
    unfold Oper.wp
    simp [execOp, ho, resolve, invoke, builtin, hd, hs, hrun, Result.andThen]
    have this : Lib.byteCells str.data.toList = [] := List.eq_nil_of_length_eq_zero (by omega)
    have hw := h w (show _ = _ by rw [this]; simpa [splice] using hg) hb
    rw [h0] at hw
    exact hK _ _ hw
  · obtain rfl := hpos (by omega)
    refine wpList_plain hgd fun K hK => ?_
    have hrun := Lib.run_copy_row_string (P := P) w dT sT o.type elem g off dLen dCap str cur.toArray t hu hsz hg hn (by simpa using hfit)
    unfold Oper.wp
    simp [execOp, ho, resolve, invoke, builtin, hd, hs, hrun, Result.andThen]
    refine hK _ _ (h _ (show _ = _ from ?_) (below_setRow hb hBg _))
    have := setRow_heap w g cur.toArray (splice cur off (Lib.byteCells str.data.toList)).toArray t (0, 0) hg
    rw [← this]
    simp [splice, hlen]

/-- A block of bytes known whole is an owned row. -/
theorem own_block {w : World} {base g : Nat} {l : List Value} (hB : base ≤ g) (hm : l.length ≤ maxLen) (h : w.heap[g]? = some (.cells l.toArray 5 (0, 0))) :
    w.ownsRow base 5 1 (.slice (some ⟨g, 0, none⟩) l.length l.length) l.length l :=
  ⟨by simp, .inr ⟨g, l.length, l.toArray, rfl, hB, h, Nat.le_refl _, hm, by simp, by simp⟩⟩
theorem byteCells_nums (l : List UInt8) : Lib.byteCells l = (l.map fun b => (b.toNat : Int)).map (Value.int .u8) := by simp [Lib.byteCells]
theorem strOfNums_bytes (l : List UInt8) : strOfNums (l.map fun b => (b.toNat : Int)) = ⟨l.toArray⟩ := by
  unfold strOfNums; rw [List.map_map]
  have : ((fun n : Int => UInt8.ofNat n.toNat) ∘ fun b : UInt8 => (b.toNat : Int)) = id := by funext b; simp
  rw [this, List.map_id]
/-- The bytes of an owned row. -/
theorem own_bytes {w : World} {base : Nat} {v : Value} {n : Nat} {l : List UInt8} (h : w.ownsRow base 5 1 v n (Lib.byteCells l)) :
    (convert 22 9 v).run Try.prog w = .ok (.string ⟨l.toArray⟩) w := by
  rw [byteCells_nums] at h
  rw [own_string h, strOfNums_bytes]
theorem splice_two {α : Type} (Z X Y : List α) (hZ : Z.length = X.length + Y.length) : splice (splice Z 0 X) X.length Y = X ++ Y := by
  simp [splice, List.drop_append]; omega
theorem str_append (a b : ByteArray) : (⟨(a.data.toList ++ b.data.toList).toArray⟩ : ByteArray) = a ++ b := by
  apply ByteArray.ext; simp
theorem byteCells_append (a b : List UInt8) : Lib.byteCells a ++ Lib.byteCells b = Lib.byteCells (a ++ b) := by simp [Lib.byteCells]
abbrev textOut (s : ByteArray) (at_ code : Int) : Value := .agg #[.string s, .int .i64 at_, .int .i64 code]
theorem bcell {W w1 : World} (hb : Below W.heap.size W w1) : (∀ b o, b < W.heap.size → w1.cell? ⟨b, o, none⟩ = W.cell? ⟨b, o, none⟩) ∧ (∀ b o, b < W.heap.size → w1.frozen? ⟨b, o, none⟩ = W.frozen? ⟨b, o, none⟩) :=
  ⟨fun b o h => hb.cell (p := ⟨b, o, none⟩) h, fun b o h => hb.frozen (p := ⟨b, o, none⟩) h⟩
theorem below_four {w w1 w2 w3 : World} {o1 o2 : Obj} (hb1 : Below w.heap.size w w1) (hb2 : Below (w1.alloc o1).heap.size (w1.alloc o1) w2) (hb3 : Below (w2.alloc o2).heap.size (w2.alloc o2) w3) : Below w.heap.size w w3 := by
  have h1 := hb1.size
  have h2 := hb2.size
  simp at h2
  exact (((hb1.alloc h1 o1).trans (hb2.mono (by simp; omega))).alloc (by omega) o2).trans (hb3.mono (by simp; omega))

end Go.Proofs.Ytjnbhppnchmeoaa

namespace Go.Proofs.Ytjnbhppnchmeoaa
open Go.RowKit
set_option linter.unusedVariables false

/-- Block g holds just these cells, none of them frozen. -/
def Blk (w : World) (g : Nat) (t : TypeId) (cs : List Value) : Prop := w.heap[g]? = some (.cells cs.toArray t (0, 0))
section
variable {w w' : World} {g : Nat} {t : TypeId} {cs : List Value}
theorem Blk.lt (h : Blk w g t cs) : g < w.heap.size := by
  rcases Nat.lt_or_ge g w.heap.size with hl | hl
  · exact hl
  · unfold Blk at h; rw [Array.getElem?_eq_none hl] at h; cases h
theorem Blk.cell (h : Blk w g t cs) {i : Nat} {v : Value} (hi : cs[i]? = some v) : w.cell? ⟨g, i, none⟩ = some v := by
  rw [cell_of_row w g i _ t (0, 0) h]; simpa using hi
theorem Blk.froz (h : Blk w g t cs) (i : Nat) : w.frozen? ⟨g, i, none⟩ = false := by
  unfold Blk at h; simp [World.frozen?, h]
theorem Blk.heap (h : Blk w g t cs) : w.heap[g]? = some (.cells cs.toArray t (0, 0)) := h
theorem Blk.drewN (h : Blk w g t cs) (n : Nat) : Blk (w.drewN n) g t cs := h
theorem Blk.drew (h : Blk w g t cs) : Blk w.drew g t cs := h
theorem Blk.alloc (h : Blk w g t cs) (o : Obj) : Blk (w.alloc o) g t cs := (Below.heap_alloc w o g h.lt).trans h
theorem Blk.fresh (w : World) (t : TypeId) (cs : List Value) : Blk (w.alloc (.cells cs.toArray t)) w.heap.size t cs := by
  unfold Blk; show (w.heap.push _)[w.heap.size]? = _; simp
theorem Blk.put (h : Blk w g t cs) (i : Nat) (u : Value) : Blk (w.setCell ⟨g, i, none⟩ u) g t (cs.set i u) := by
  unfold Blk at h ⊢; simp [World.setCell, Array.getElem?_modify, h]
theorem Blk.far (h : Blk w g t cs) {p : Addr} (hp : g ≠ p.block) (u : Value) : Blk (w.setCell p u) g t cs := (Below.heap_setCell w p u g hp).trans h
theorem Blk.below {B : Nat} (h : Blk w g t cs) (hb : Below B w w') (hg : g < B) : Blk w' g t cs := (hb.block g hg).trans h
theorem Blk.grown {row : Option Nat} (h : Blk w g t cs) (hb : w.grownBy w' row) (hg : some g ≠ row) : Blk w' g t cs := (hb.block g h.lt hg).trans h
theorem Blk.setRow (h : Blk w g t cs) (ds : List Value) : Blk (w.setRow g ds.toArray) g t ds := setRow_heap w g _ _ t (0, 0) h
theorem Blk.row_far (h : Blk w g t cs) {k : Nat} (hk : g ≠ k) (ds : Array Value) : Blk (w.setRow k ds) g t cs := (setRow_other w k g ds hk).trans h
end
theorem below_drewN {B : Nat} {a w : World} (h : Below B a w) (n : Nat) : Below B a (w.drewN n) := ⟨h.os, h.tape, h.output, h.size, h.block⟩
theorem below_drew {B : Nat} {a w : World} (h : Below B a w) : Below B a w.drew := ⟨h.os, h.tape, h.output, h.size, h.block⟩
theorem quiet_eq {P : Program} {f : FuncId} {args : Array Value} {w : World} {n : Nat} {v : Value}
    (h : Calls P f args (w.drewN n) fun e w' => e = .returned v ∧ w.drewN n = w') : Calls P f args (w.drewN n) fun e w'' => e = .returned v ∧ ∃ m, w'' = w.drewN m :=
  h.mono fun _ _ ⟨he, hm⟩ => ⟨he, n, hm.symm⟩

/-- A whole value stored into the block that was made last. -/
theorem wpList_store_new {P : Program} {ops : Array Oper} {rest : List Oper} {o : Oper} {a : Act} {w : World} {Q : Exit → Act → World → Prop} (hgd : o.guard = none) (ty : TypeId) (x y : Operand) (ho : o.op = .store ty x y)
    (old : Array Value) (t : TypeId) (cells : List Value) (hx : a.eval x = .pointer (some ⟨w.heap.size, 0, none⟩)) (hy : a.eval y = .agg cells.toArray)
    (hi : (P.info? ty).map (·.size) = some cells.toArray.size) (hold : old.size = cells.toArray.size) (h1 : cells.toArray.all (·.oneCell') = true)
    (h : ∀ w2, Blk w2 w.heap.size t cells → Below w.heap.size w w2 → wpList P ops Q rest (a.put o.dst undef) w2) : wpList P ops Q (o :: rest) a (w.alloc (.cells old t)) := by
  have hn : Blk (w.alloc (.cells old t)) w.heap.size t old.toList := by
    have := Blk.fresh w t old.toList
    simpa using this
  refine wpList_store_row hgd ty x y ho w.heap.size cells.toArray hx hy t old (by simpa using hn.heap) hi hold h1 (h _ (hn.setRow cells) ?_)
  exact below_setRow ((Below.refl _ _).alloc (Nat.le_refl _) _) (Nat.le_refl _) _

/-- n cells, each an integer of one kind. -/
def ints (k : IntKind) (n : Nat) (f : Nat → Int) : List Value := (List.range n).map fun i => Value.int k (f i)
theorem ints_len (k : IntKind) (n : Nat) (f : Nat → Int) : (ints k n f).length = n := by simp [ints]
theorem ints_get {k : IntKind} {n : Nat} {f : Nat → Int} {i : Nat} (h : i < n) : (ints k n f)[i]? = some (.int k (f i)) := by simp [ints, h]
theorem ints_set {k : IntKind} {n : Nat} {f : Nat → Int} {i : Nat} {v : Int} (h : i < n) : (ints k n f).set i (.int k v) = ints k n (fun j => if j = i then v else f j) := by
  apply List.ext_getElem?
  intro j
  unfold ints
  rw [List.getElem?_set]
  by_cases hj : i = j
  · subst hj; simp [h]
  · simp [hj]
    by_cases hn : j < n
    · simp [hn, Ne.symm hj]
    · simp [hn]
theorem ints_congr {k : IntKind} {n : Nat} {f g : Nat → Int} (h : ∀ i, i < n → f i = g i) : ints k n f = ints k n g := by
  unfold ints; apply List.map_congr_left; intro i hi; rw [h i (by simpa using hi)]
theorem ints_one (k : IntKind) (n : Nat) (f : Nat → Int) : (ints k n f).toArray.all (·.oneCell') = true := by
  simp [ints, Value.oneCell']
end Go.Proofs.Ytjnbhppnchmeoaa

namespace Go.Proofs.Ytjnbhppnchmeoaa
open Go.RowKit
set_option linter.unusedVariables false

theorem sizeU8 : (Try.prog.info? 5).map (·.size) = some 1 := by kernel_rfl

/-- A row that is owned up to its capacity is its block. -/
theorem own_heap {w : World} {base g n : Nat} {e : TypeId} {xs : List Value} (h : w.ownsRow base e 1 (.slice (some ⟨g, 0, none⟩) n n) n xs) : w.heap[g]? = some (.cells xs.toArray e (0, 0)) := by
  obtain ⟨hl, hh⟩ := h
  rcases hh with ⟨h1, _⟩ | ⟨g', cap, cur, h1, _, hb, _, _, hs, ht⟩
  · cases h1
  · simp at h1
    obtain ⟨rfl, rfl⟩ := h1
    rw [hb]
    have : cur.toList = xs := by rw [← ht, List.take_of_length_le (by simp [hs])]
    rw [← this]
theorem own_heap' {w : World} {base g n : Nat} {e : TypeId} {xs : List Value} (h : w.ownsRow base e 1 (.slice (some ⟨g, 0, none⟩) n n) n xs) : ∃ Z : List Value, Hid (w.heap[g]? = some (.cells Z.toArray e (0, 0))) ∧ Z.length = n :=
  ⟨xs, own_heap h, by simpa using h.1⟩

theorem bc_len (a : ByteArray) : (Lib.byteCells a.data.toList).length = a.size := by rw [Lib.byteCells_length, ← Lib.size_eq]
theorem ne_empty {b : ByteArray} (h : 0 < b.size) : ¬ b = ByteArray.empty := by intro e; subst e; simp at h

theorem splice_len0 {Z : List Value} {a : ByteArray} {m : Nat} (h : Z.length = a.size + m) : (splice Z 0 (Lib.byteCells a.data.toList)).length = a.size + m := by
  rw [length_splice _ _ _ (by rw [bc_len]; omega), h]
theorem conv_two {w : World} {g n : Nat} {Z : List Value} {a b : ByteArray} (hn : n = a.size + b.size) (hs : n ≤ 1048576)
    (h : Hid (w.heap[g]? = some (.cells (splice (splice Z 0 (Lib.byteCells a.data.toList)) a.size (Lib.byteCells b.data.toList)).toArray 5 (0, 0)))) (hZ : Hid (Z.length = a.size + b.size)) :
    (convert 22 9 (.slice (some ⟨g, 0, none⟩) n n)).run Try.prog w = .ok (.string (a ++ b)) w := by
  have e : splice (splice Z 0 (Lib.byteCells a.data.toList)) a.size (Lib.byteCells b.data.toList) = Lib.byteCells (a.data.toList ++ b.data.toList) := by
    have := splice_two Z (Lib.byteCells a.data.toList) (Lib.byteCells b.data.toList) (by rw [bc_len, bc_len]; exact hZ.out)
    rw [bc_len] at this
    rw [this, byteCells_append]
  have h' := h.out
  rw [e] at h'
  have hl : (Lib.byteCells (a.data.toList ++ b.data.toList)).length = n := by rw [← byteCells_append, List.length_append, bc_len, bc_len, hn]
  rw [← str_append]
  refine own_bytes (base := 0) (n := n) ⟨by simpa using hl, .inr ⟨g, n, _, rfl, Nat.zero_le _, h', Nat.le_refl _, ?_, by simpa using hl, ?_⟩⟩
  · unfold maxLen; omega
  · rw [List.take_of_length_le (by simp [hl])]

end Go.Proofs.Ytjnbhppnchmeoaa

namespace Go.Proofs.Ytjnbhppnchmeoaa
open Go.RowKit Go.ChangeShapes Go.WideShapes
set_option linter.unusedVariables false
set_option maxRecDepth 1000000

/-- n bytes behind an address, below block B. -/
def Bts (w : World) (B : Nat) (A : Option Addr) (n : Nat) : Prop := n ≤ 1048576 ∧ ∀ i, i < n → ∃ a x, A = some a ∧ a.block < B ∧ w.cell? (a.add i) = some (.int .u8 x) ∧ 0 ≤ x ∧ x ≤ 255
theorem add_block (a : Addr) (n : Nat) : (a.add n).block = a.block := by unfold Addr.add; split <;> rfl
theorem Bts.of_block {w w' : World} {B n : Nat} {A : Option Addr} (h : Bts w B A n) (hb : ∀ k, k < B → w'.heap[k]? = w.heap[k]?) : Bts w' B A n :=
  ⟨h.1, fun i hi => by
    obtain ⟨a, x, e, h1, h2, h3⟩ := h.2 i hi
    refine ⟨a, x, e, h1, ?_, h3⟩
    rw [World.cell?_of_block (a := a.add i) (hb _ (by rw [add_block]; exact h1))]; exact h2⟩
/-- What is known of a slice of bytes that came in. -/
def Byt (w : World) (A : Option Addr) (n : Nat) : Prop := n ≤ maxLen ∧ (n ≤ 1048576 → Bts w w.heap.size A n)
theorem cellsByte : Try.prog.cellsOf 5 = 1 := by kernel_rfl
theorem bytes_arg {H : Type} {enc : TypeId × Value → H} {W : World} {r : Reach} {b0 : Nat} {v : Value} {d : DataW H} {p : List MemPlace} (hval : Value.okWide Try.prog W r b0 22 v) (h : DataW.Trod enc Try.prog W 0 (fun _ => true) true 22 v d p) :
    ∃ A n c, v = .slice A n c ∧ Byt W A n := by
  obtain ⟨A, n, c, rfl⟩ := okWide_slice Try.underlying22 hval
  obtain ⟨m, hm⟩ := h
  refine ⟨A, n, c, rfl, ?_⟩
  have hm' : DataW.trod enc Try.prog W 0 (fun _ => true) true m 22 [.slice A n c] = some (d, p) := hm
  rcases open_ints Try.underlying22 Try.underlying5 cellsByte hm' with ⟨h1, _⟩ | ⟨a, len, cap, zs, h1, _, hl, hc, hz, _, hcell, hwf⟩
  · injection h1 with h1 _
    injection h1 with h1 h2 h3
    subst h2
    exact ⟨by unfold maxLen; omega, fun _ => ⟨by omega, fun i hi => by omega⟩⟩
  · injection h1 with h1 _
    injection h1 with h1 h2 h3
    subst h1 h2 h3
    refine ⟨by omega, fun hn => ⟨hn, fun i hi => ?_⟩⟩
    have hzl : zs.length = c := by simpa using hz
    have hi' : i < zs.length := by omega
    have hc1 := hcell i hi'
    have hx : zs.getD i 0 ∈ zs := by rw [List.getD, List.getElem?_eq_getElem hi']; exact List.getElem_mem hi'
    have hw := hwf _ hx
    have hr : 0 ≤ zs.getD i 0 ∧ zs.getD i 0 ≤ 255 := by simpa [Lit.wf, IntKind.min, IntKind.max, IntKind.signed, IntKind.bits] using hw
    exact ⟨a, zs.getD i 0, rfl, by have := World.block_lt_of_cell? W _ hc1; rw [add_block] at this; exact this, hc1, hr.1, hr.2⟩
/-- The source in block g, all that it reads below block B. -/
def Drw (w : World) (B g : Nat) : Prop := ∃ A n c, ∃ ix mix size : Int, Blk w g 122 [.slice A n c, .int .i64 ix, .int .u64 mix, .int .i64 size] ∧ B ≤ g ∧ B ≤ w.heap.size ∧ Bts w B A n ∧ 0 ≤ ix ∧ ix ≤ n ∧ 0 ≤ mix ∧ mix ≤ 18446744073709551615 ∧ 0 ≤ size ∧ size ≤ 12
theorem Drw.of_block {w w' : World} {B g : Nat} (h : Drw w B g) (hs : w.heap.size ≤ w'.heap.size) (hb : ∀ k, k < w.heap.size → (k < B ∨ k = g) → w'.heap[k]? = w.heap[k]?) : Drw w' B g := by
  obtain ⟨A, n, c, ix, mix, size, h1, h2, h3, h4, h5⟩ := h
  exact ⟨A, n, c, ix, mix, size, (hb g h1.lt (.inr rfl)).trans h1, h2, by omega, h4.of_block fun k hk => hb k (by omega) (.inl hk), h5⟩
theorem Drw.lt {w : World} {B g : Nat} (h : Drw w B g) : B ≤ g ∧ g < w.heap.size ∧ B ≤ w.heap.size := by
  obtain ⟨A, n, c, ix, mix, size, h1, h2, h3, _⟩ := h
  exact ⟨h2, h1.lt, h3⟩
theorem Drw.below {w w' : World} {B g : Nat} (h : Drw w B g) (hb : Below w.heap.size w w') : Drw w' B g := h.of_block hb.size fun k hk _ => hb.block k hk
theorem Drw.alloc {w : World} {B g : Nat} (h : Drw w B g) (o : Obj) : Drw (w.alloc o) B g := h.below ((Below.refl _ _).alloc (Nat.le_refl _) o)
theorem Drw.drew {w : World} {B g : Nat} (h : Drw w B g) : Drw w.drew B g := h
theorem Drw.drewN {w : World} {B g : Nat} (h : Drw w B g) (n : Nat) : Drw (w.drewN n) B g := h
theorem Drw.grown {w w' : World} {B g : Nat} {row : Option Nat} (h : Drw w B g) (hg : w.grownBy w' row) (hr : ∀ k, row = some k → B ≤ k ∧ k ≠ g) : Drw w' B g :=
  h.of_block hg.size fun k hk ho => hg.block k hk (fun e => by
    have := hr k e.symm
    rcases ho with h1 | h1 <;> omega)
theorem only_below {B g : Nat} {w w' : World} (h : w.grownBy w' (some g)) (hB : B ≤ g) (hs : B ≤ w.heap.size) : Below B w w' :=
  ⟨h.os, h.tape, h.output, h.size, fun k hk => h.block k (by omega) (fun e => by have := Option.some.inj e; omega)⟩
theorem only_set {w w' : World} {g i : Nat} (h : w.grownBy w' (some g)) (v : Value) : w.grownBy (w'.setCell ⟨g, i, none⟩ v) (some g) :=
  ⟨h.os, h.tape, h.output, by simpa [World.setCell] using h.size, fun k hk hne => (Below.heap_setCell w' _ v k (fun e => hne (by rw [e]))).trans (h.block k hk hne)⟩
theorem only_drewN {w w' : World} {row : Option Nat} (h : w.grownBy w' row) (n : Nat) : w.grownBy (w'.drewN n) row := ⟨h.os, h.tape, h.output, h.size, h.block⟩
theorem only_drew {w w' : World} {row : Option Nat} (h : w.grownBy w' row) : w.grownBy w'.drew row := ⟨h.os, h.tape, h.output, h.size, h.block⟩

/-- What a draw of a number below most answers. -/
def Num1 (B g : Nat) (most : Int) (w : World) (e : Ending) (w' : World) : Prop :=
  ∃ v : Int, e = .returned (.int .i64 v) ∧ 0 ≤ v ∧ (1 < most → v < most) ∧ (most ≤ 1 → v = 0) ∧ Drw w' B g ∧ w.grownBy w' (some g)

set_option maxHeartbeats 1600000 in
set_option maxRecDepth 1000000 in
theorem n_any (B g : Nat) (most : Int) (w : World) (h : Drw w B g) (m0 : -9223372036854775808 ≤ most) (m1 : most ≤ 9223372036854775807) :
    Calls Try.prog 52 #[.pointer (some ⟨g, 0, none⟩), .int .i64 most] w (Num1 B g most w) := by
  have HD := Lib.hid h
  by_cases hm : most ≤ 1
  · go_enter Try.func52, Try.ntmps52
    go_wp2
    go_ret
    exact ⟨0, rfl, by omega, fun h => by omega, fun _ => rfl, HD.out, World.grownBy.refl _ _⟩
  · obtain ⟨A, n, c, ix, mix, size, hb, hB, hBw, hbt, i0, i1, x0, x1, s0, s1⟩ := h
    have c0 : w.cell? ⟨g, 0, none⟩ = some (.slice A n c) := hb.cell rfl
    have c1 : w.cell? ⟨g, 1, none⟩ = some (.int .i64 ix) := hb.cell rfl
    have c2 : w.cell? ⟨g, 2, none⟩ = some (.int .u64 mix) := hb.cell rfl
    have f1 := hb.froz 1
    have f2 := hb.froz 2
    obtain ⟨k, rfl⟩ := Int.eq_ofNat_of_zero_le i0
    have hn := hbt.1
    by_cases hlt : k < n
    · obtain ⟨a, x, rfl, ab, ac, xx0, xx1⟩ := hbt.2 k hlt
      have hd : decide ((k : Int) < (n : Int)) = true := by simp; omega
      go_enter Try.func52, Try.ntmps52
      go_wp2
      go_quiet (fail)
      generalize nq = nqa
      go_wp2
      go_quiet (fail)
      go_wp2
      go_region
      obtain ⟨m1, M1⟩ : ∃ m1, Hid (bits .xor .u64 mix (IntKind.u64.wrap (mix * 8192)) = m1) := ⟨_, Lib.hid rfl⟩
      have m1a : 0 ≤ m1 := by rw [← M1.out]; exact bits_lo_u64 _ _ _
      have m1b : m1 ≤ 18446744073709551615 := by rw [← M1.out]; exact bits_hi_u64 _ _ _
      rw [M1.out]
      have hb2 := (((hb.drewN (nqa + nq)).put 1 (.int .i64 (k + 1))).put 2 (.int .u64 m1)).drew
      have ho2 := only_drew (only_set (i := 2) (only_set (i := 1) (only_drewN (World.grownBy.refl w (some g)) (nqa + nq)) (.int .i64 (k + 1))) (.int .u64 m1))
      generalize (((w.drewN (nqa + nq)).setCell ⟨g, 1, none⟩ (.int .i64 (k + 1))).setCell ⟨g, 2, none⟩ (.int .u64 m1)).drew = w2 at hb2 ho2 ⊢
      clear c0 c1 c2 f1 f2
      have c2 : w2.cell? ⟨g, 2, none⟩ = some (.int .u64 m1) := hb2.cell rfl
      have f2 := hb2.froz 2
      go_wp2
      go_region
      obtain ⟨m2, M2⟩ : ∃ m2, Hid (bits .xor .u64 m1 (m1 / 128) = m2) := ⟨_, Lib.hid rfl⟩
      have m2a : 0 ≤ m2 := by rw [← M2.out]; exact bits_lo_u64 _ _ _
      have m2b : m2 ≤ 18446744073709551615 := by rw [← M2.out]; exact bits_hi_u64 _ _ _
      rw [M2.out]
      have hb3 := (hb2.put 2 (.int .u64 m2)).drew
      have ho3 := only_drew (only_set (i := 2) ho2 (.int .u64 m2))
      generalize (w2.setCell ⟨g, 2, none⟩ (.int .u64 m2)).drew = w3 at hb3 ho3 ⊢
      clear c2 f2
      have c2 : w3.cell? ⟨g, 2, none⟩ = some (.int .u64 m2) := hb3.cell rfl
      have f2 := hb3.froz 2
      go_wp2
      go_region
      obtain ⟨m3, M3⟩ : ∃ m3, Hid (bits .xor .u64 m2 (IntKind.u64.wrap (m2 * 131072)) = m3) := ⟨_, Lib.hid rfl⟩
      have m3a : 0 ≤ m3 := by rw [← M3.out]; exact bits_lo_u64 _ _ _
      have m3b : m3 ≤ 18446744073709551615 := by rw [← M3.out]; exact bits_hi_u64 _ _ _
      rw [M3.out]
      have hb4 := (hb3.put 2 (.int .u64 m3)).drew
      have ho4 := only_drew (only_set (i := 2) ho3 (.int .u64 m3))
      generalize (w3.setCell ⟨g, 2, none⟩ (.int .u64 m3)).drew = w4 at hb4 ho4 ⊢
      clear c2 f2
      have c2 : w4.cell? ⟨g, 2, none⟩ = some (.int .u64 m3) := hb4.cell rfl
      go_wp2
      go_ret
      obtain ⟨y, Y⟩ : ∃ y, Hid ((x + m3 / 1048576) % most = y) := ⟨_, Lib.hid rfl⟩
      have ya : 0 ≤ y := by rw [← Y.out]; exact Int.emod_nonneg _ (by omega)
      have yb : y < most := by rw [← Y.out]; exact Int.emod_lt_of_pos _ (by omega)
      refine ⟨y, retI (by rw [Y.out]; unfold wrap64; omega), ya, fun _ => yb, fun h => by omega, ⟨_, _, _, _, _, _, hb4, hB, Nat.le_trans hBw ho4.size, hbt.of_block fun q hq => ho4.block q (by omega) (fun e => by have := Option.some.inj e; omega), ?_, ?_, m3a, m3b, s0, s1⟩, ho4⟩
      · omega
      · omega
    · have hd : decide ((k : Int) < (n : Int)) = false := by simp; omega
      go_enter Try.func52, Try.ntmps52
      go_wp2
      go_quiet (fail)
      go_wp2
      go_region
      obtain ⟨m1, M1⟩ : ∃ m1, Hid (bits .xor .u64 mix (IntKind.u64.wrap (mix * 8192)) = m1) := ⟨_, Lib.hid rfl⟩
      have m1a : 0 ≤ m1 := by rw [← M1.out]; exact bits_lo_u64 _ _ _
      have m1b : m1 ≤ 18446744073709551615 := by rw [← M1.out]; exact bits_hi_u64 _ _ _
      rw [M1.out]
      have hb2 := (hb.drewN (nq + 1)).put 2 (.int .u64 m1)
      have ho2 := only_set (i := 2) (only_drewN (World.grownBy.refl w (some g)) (nq + 1)) (.int .u64 m1)
      generalize (w.drewN (nq + 1)).setCell ⟨g, 2, none⟩ (.int .u64 m1) = w2 at hb2 ho2 ⊢
      clear c0 c1 c2 f1 f2
      have c2 : w2.cell? ⟨g, 2, none⟩ = some (.int .u64 m1) := hb2.cell rfl
      have f2 := hb2.froz 2
      go_wp2
      go_region
      obtain ⟨m2, M2⟩ : ∃ m2, Hid (bits .xor .u64 m1 (m1 / 128) = m2) := ⟨_, Lib.hid rfl⟩
      have m2a : 0 ≤ m2 := by rw [← M2.out]; exact bits_lo_u64 _ _ _
      have m2b : m2 ≤ 18446744073709551615 := by rw [← M2.out]; exact bits_hi_u64 _ _ _
      rw [M2.out]
      have hb3 := (hb2.put 2 (.int .u64 m2)).drew
      have ho3 := only_drew (only_set (i := 2) ho2 (.int .u64 m2))
      generalize (w2.setCell ⟨g, 2, none⟩ (.int .u64 m2)).drew = w3 at hb3 ho3 ⊢
      clear c2 f2
      have c2 : w3.cell? ⟨g, 2, none⟩ = some (.int .u64 m2) := hb3.cell rfl
      have f2 := hb3.froz 2
      go_wp2
      go_region
      obtain ⟨m3, M3⟩ : ∃ m3, Hid (bits .xor .u64 m2 (IntKind.u64.wrap (m2 * 131072)) = m3) := ⟨_, Lib.hid rfl⟩
      have m3a : 0 ≤ m3 := by rw [← M3.out]; exact bits_lo_u64 _ _ _
      have m3b : m3 ≤ 18446744073709551615 := by rw [← M3.out]; exact bits_hi_u64 _ _ _
      rw [M3.out]
      have hb4 := (hb3.put 2 (.int .u64 m3)).drew
      have ho4 := only_drew (only_set (i := 2) ho3 (.int .u64 m3))
      generalize (w3.setCell ⟨g, 2, none⟩ (.int .u64 m3)).drew = w4 at hb4 ho4 ⊢
      clear c2 f2
      have c2 : w4.cell? ⟨g, 2, none⟩ = some (.int .u64 m3) := hb4.cell rfl
      go_wp2
      go_ret
      obtain ⟨y, Y⟩ : ∃ y, Hid (m3 / 1048576 % most = y) := ⟨_, Lib.hid rfl⟩
      have ya : 0 ≤ y := by rw [← Y.out]; exact Int.emod_nonneg _ (by omega)
      have yb : y < most := by rw [← Y.out]; exact Int.emod_lt_of_pos _ (by omega)
      refine ⟨y, retI (by rw [Y.out]; unfold wrap64; omega), ya, fun _ => yb, fun h => by omega, ⟨_, _, _, _, _, _, hb4, hB, Nat.le_trans hBw ho4.size, hbt.of_block fun q hq => ho4.block q (by omega) (fun e => by have := Option.some.inj e; omega), i0, i1, m3a, m3b, s0, s1⟩, ho4⟩

theorem Drw.type_ne {w : World} {B g base n : Nat} {e : TypeId} {v : Value} {xs : List Value} (h : Drw w B g) (ho : w.ownsRow base e 1 v n xs) (hne : e ≠ 122) : v.ownBlock ≠ some g := by
  obtain ⟨A, n', c, ix, mix, size, hg, _⟩ := h
  rcases ho.2 with ⟨rfl, _⟩ | ⟨g', cap, cur, rfl, _, hh, _⟩
  · simp [Value.ownBlock]
  · intro he
    have : g' = g := by simpa [Value.ownBlock] using he
    subst this
    have hg' := hg.heap
    rw [hh] at hg'
    injection hg' with hg'
    injection hg' with _ ht
    exact hne ht
theorem only_app {w wr w1 : World} {g n : Nat} {e : TypeId} {v : Value} {xs : List Value} {o : Obj} (h : w.grownBy wr (some g)) (ho : wr.ownsRow w.heap.size e 1 v n xs) (hg : (wr.alloc o).grownBy w1 v.ownBlock) : w.grownBy w1 (some g) := by
  have hs := h.size
  refine ⟨hg.os.trans h.os, hg.tape.trans h.tape, hg.output.trans h.output, by have := hg.size; simp at this; omega, fun k hk hne => ?_⟩
  rw [hg.block k (by simp; omega) (fun e => by have := (ho.lt k e.symm).1; omega), Below.heap_alloc wr o k (by omega)]
  exact h.block k hk hne
theorem only_trans {a b c : World} {g : Nat} (h : a.grownBy b (some g)) (k : b.grownBy c (some g)) : a.grownBy c (some g) :=
  ⟨k.os.trans h.os, k.tape.trans h.tape, k.output.trans h.output, Nat.le_trans h.size k.size, fun i hi hne => (k.block i (Nat.lt_of_lt_of_le hi h.size) hne).trans (h.block i hi hne)⟩
theorem only_of_below {a b c : World} {g : Nat} (h : a.grownBy b (some g)) (k : Below b.heap.size b c) : a.grownBy c (some g) :=
  ⟨k.os.trans h.os, k.tape.trans h.tape, k.output.trans h.output, Nat.le_trans h.size k.size, fun i hi hne => (k.block i (Nat.lt_of_lt_of_le hi h.size)).trans (h.block i hi hne)⟩

/-- What a draw of one out of so many answers. -/
def Bool1 (B g : Nat) (w : World) (e : Ending) (w' : World) : Prop := ∃ b : Bool, e = .returned (.bool b) ∧ Drw w' B g ∧ w.grownBy w' (some g)
set_option maxHeartbeats 1600000 in
theorem one_any (B g : Nat) (most : Int) (w : World) (h : Drw w B g) (m0 : -9223372036854775808 ≤ most) (m1 : most ≤ 9223372036854775807) :
    Calls Try.prog 51 #[.pointer (some ⟨g, 0, none⟩), .int .i64 most] w (Bool1 B g w) := by
  go_enter Try.func51, Try.ntmps51
  go_wp2_with (go_at_call 52; refine (n_any B g most _ h m0 m1).mono ?_; rintro e w1 ⟨v, rfl, v0, _, _, hd, ho⟩)
  go_ret
  exact ⟨_, rfl, hd, ho⟩

/-- What a draw of n bytes answers. -/
def Str1 (B g : Nat) (n : Nat) (w : World) (e : Ending) (w' : World) : Prop := ∃ s : ByteArray, e = .returned (.string s) ∧ s.size = n ∧ Drw w' B g ∧ w.grownBy w' (some g)
theorem pick_cell (l : List Int) (T : TypeId) {w w1 : World} {g : Nat} (ho : (w.alloc (.cells (l.map (Value.int .i64)).toArray T)).grownBy w1 (some g)) (hg : g < w.heap.size) {v : Int} (v0 : 0 ≤ v) (v1 : v < l.length) :
    ∃ y, y ∈ l ∧ w1.cell? ⟨w.heap.size, v.toNat, none⟩ = some (.int .i64 y) := by
  have hv : v.toNat < l.length := by omega
  refine ⟨l[v.toNat], List.getElem_mem hv, ?_⟩
  have hb := (Blk.fresh w T (l.map (Value.int .i64))).grown ho (fun e => by have := Option.some.inj e; omega)
  exact hb.cell (by rw [List.getElem?_map, List.getElem?_eq_getElem hv]; rfl)
def edgeI : List Int := [0, 1, -1, 2, 1000, 1001, 2147483648, 2147483647, -2147483648, 4611686018427387904, 9223372036854775807, -9223372036854775808, 1000000, 1000001]
theorem edge_range : ∀ y ∈ edgeI, -9223372036854775808 ≤ y ∧ y ≤ 9223372036854775807 := by decide
set_option maxHeartbeats 1600000 in
theorem edge_any (B g : Nat) (w : World) (h : Drw w B g) :
    Calls Try.prog 73 #[.pointer (some ⟨g, 0, none⟩)] w fun e w' => ∃ v : Int, e = .returned (.int .i64 v) ∧ -9223372036854775808 ≤ v ∧ v ≤ 9223372036854775807 ∧ Drw w' B g ∧ w.grownBy w' (some g) := by
  have hd0 := h.lt
  have h1 : Hid (∀ o, Drw (w.alloc o) B g) := fun o => h.below ((Below.refl _ _).alloc (Nat.le_refl _) o)
  go_enter Try.func73, Try.ntmps73
  go_wp2_with (go_at_call 52; refine (n_any B g 14 _ (h1.out _) (by omega) (by omega)).mono ?_; rintro e w1 ⟨v, rfl, v0, v1, _, hd, ho⟩; have v2 := v1 (by omega); clear v1; obtain ⟨y, hy1, hy⟩ := pick_cell edgeI 2 ho hd0.2.1 v0 v2)
  go_ret
  have hr := edge_range y hy1
  refine ⟨y, rfl, hr.1, hr.2, hd, ?_⟩
  exact only_trans (World.grownBy_alloc w _ _) ho

set_option maxHeartbeats 1600000 in
theorem source_any (A : Option Addr) (n c B : Nat) (w : World) (h : Bts w B A n) (hB : B ≤ w.heap.size) :
    Calls Try.prog 49 #[.slice A n c] w fun e w' => ∃ g, e = .returned (.pointer (some ⟨g, 0, none⟩)) ∧ w.heap.size ≤ g ∧ Drw w' B g ∧ Below w.heap.size w w' := by
  have HB := Lib.hid h
  have hn := h.1
  have hs0 : Blk (w.alloc (.cells #[.slice A n c, .int .i64 0, .int .u64 88172645463325252, .int .i64 0] 122)) w.heap.size 122 [.slice A n c, .int .i64 0, .int .u64 88172645463325252, .int .i64 0] := Blk.fresh w _ _
  have HS0 := Lib.hid hs0
  clear hs0 h
  go_enter Try.func49, Try.ntmps49
  go_wp2
  go_loopw [4] (fun i wr => ∃ (k : Nat) (mix : Int), k ≤ 64 ∧ k ≤ n ∧ i = .int .i64 k ∧ 0 ≤ mix ∧ mix ≤ 18446744073709551615 ∧ Blk wr w.heap.size 122 [.slice A n c, .int .i64 0, .int .u64 mix, .int .i64 0] ∧ Below w.heap.size w wr) (fun i _ => 64 - (intOf i).toNat)
  case atStart => exact ⟨0, _, by omega, by omega, rfl, by omega, by omega, HS0.out, (Below.refl _ _).alloc (Nat.le_refl _) _⟩
  case round =>
    obtain ⟨k, mix, hk, hkn, rfl, x0, x1, hb, hbl⟩ := hrel
    have c2 : wr.cell? ⟨w.heap.size, 2, none⟩ = some (.int .u64 mix) := hb.cell rfl
    have f2 := hb.froz 2
    by_cases hlt : k < n ∧ k < 64
    · obtain ⟨hl1, hl2⟩ := hlt
      obtain ⟨a, x, rfl, ab, ac, xx0, xx1⟩ := (HB.out.of_block (w' := wr) fun q hq => hbl.block q (by omega)).2 k hl1
      have d1 : decide ((k : Int) < (n : Int)) = true := by simp; omega
      have d2 : decide ((k : Int) < 64) = true := by simp; omega
      go_wp2
      go_region
      go_wp2
      have y0 : 0 ≤ IntKind.u64.wrap (bits BinOp.xor .u64 mix x * 1099511628211) ∧ IntKind.u64.wrap (bits BinOp.xor .u64 mix x * 1099511628211) ≤ 18446744073709551615 := by rw [IntKind.wrap_u64]; omega
      exact ⟨⟨k + 1, _, by omega, by omega, by go_num, y0.1, y0.2, (hb.put 2 _).drew, below_drew (hbl.setCell (Nat.le_refl _) _)⟩, by simp [intOf]; omega⟩
    · have FIN : Hid (∀ (z : Int) (wq : World), 0 ≤ z → z ≤ 12 → Blk wq w.heap.size 122 [.slice A n c, .int .i64 0, .int .u64 mix, .int .i64 z] → Below w.heap.size w wq → Drw wq B w.heap.size) := fun z wq z0 z1 hq hl =>
        ⟨A, n, c, 0, mix, z, hq, hB, Nat.le_trans hB hl.size, HB.out.of_block fun q hq => hl.block q (by omega), by omega, by omega, x0, x1, z0, z1⟩
      have c3 : wr.cell? ⟨w.heap.size, 3, none⟩ = some (.int .i64 0) := hb.cell rfl
      have f3 := hb.froz 3
      by_cases hl1 : k < n
      · have d1 : decide ((k : Int) < (n : Int)) = true := by simp; omega
        have d2 : decide ((k : Int) < 64) = false := by simp; omega
        by_cases h12 : 12 < n / 20
        · have g12 : (12 : Int) < (n : Int) / 20 := by omega
          go_wp2
          go_ret
          exact ⟨_, rfl, Nat.le_refl _, FIN.out 12 _ (by omega) (by omega) ((hb.put 3 _).put 3 _) ((hbl.setCell (Nat.le_refl _) _).setCell (Nat.le_refl _) _), (hbl.setCell (Nat.le_refl _) _).setCell (Nat.le_refl _) _⟩
        · have g12 : ¬ (12 : Int) < (n : Int) / 20 := by omega
          go_wp2
          go_ret
          exact ⟨_, rfl, Nat.le_refl _, FIN.out ((n : Int) / 20) _ (by omega) (by omega) (hb.put 3 _) (hbl.setCell (Nat.le_refl _) _), hbl.setCell (Nat.le_refl _) _⟩
      · have d1 : decide ((k : Int) < (n : Int)) = false := by simp; omega
        have h12 : ¬ 12 < n / 20 := by omega
        have g12 : ¬ (12 : Int) < (n : Int) / 20 := by omega
        go_wp2
        go_ret
        exact ⟨_, rfl, Nat.le_refl _, FIN.out ((n : Int) / 20) _ (by omega) (by omega) (hb.put 3 _) (hbl.setCell (Nat.le_refl _) _), hbl.setCell (Nat.le_refl _) _⟩
end Go.Proofs.Ytjnbhppnchmeoaa
