/- Small facts on memory and bytes that the contracts of this seat share. Blocks of memory that are known whole, rows of words, and how they are kept. A region that draws its order, whose operations only read, and whose callees keep what is known of the world (they may make memory): one walk, over a class of worlds. Plain facts on the reading of a number: no program is named here. -/
import Derived.Test.YtjnbhppnchmeoaaDoorChecked
import Derived.WalkKit
import Derived.Below
import Derived.Lib.Hide
import Derived.Laws.BitsAllLaws
import Derived.Laws.Closers25b
import Derived.Laws.BytesArg
import Derived.Laws.CopyOwn
import Derived.Lib.BufferWrite
import Derived.Deep.QuietTactic
import Derived.BigQuiet
import Derived.IntWalk
import Derived.Deep.Draws
import Derived.Laws.OwnMore
import Derived.Laws.Rows
import Derived.Laws.Tables
namespace Go.Proofs.YtjnbhppnchmeoaaDoor
open Go.RowKit
set_option linter.unusedVariables false

theorem retI {k : IntKind} {a b : Int} (h : a = b) : Ending.returned (.int k a) = .returned (.int k b) := by rw [h]
theorem retS {a b : ByteArray} (h : a = b) : Ending.returned (.string a) = .returned (.string b) := by rw [h]

theorem wf_i64 {n : Int} (h : (Lit.int .i64 n).wf = true) : -9223372036854775808 ≤ n ∧ n ≤ 9223372036854775807 := by
  simpa [Lit.wf, IntKind.min, IntKind.max, IntKind.signed, IntKind.bits] using h

/-- The bytes of an owned row of bytes. -/
theorem own_string {w : World} {base : Nat} {v : Value} {n : Nat} {ns : List Int} (h : w.ownsRow base 5 1 v n (ns.map (Value.int .u8))) :
    (convert 118 9 v).run Tryd.prog w = .ok (.string (strOfNums ns)) w := by
  obtain ⟨hl, hh⟩ := h
  simp at hl
  rcases hh with ⟨rfl, rfl⟩ | ⟨g, cap, cur, rfl, hg, hb, hn, hm, hs, ht⟩
  · have : ns = [] := by simpa using hl
    subst this
    exact run_convert_bytes_nil w 118 5 Tryd.underlying118 Tryd.underlying5 0 0 9 Tryd.underlying9
  · refine run_convert_bytes_arg w 118 5 Tryd.underlying118 Tryd.underlying5 g 0 n cap ns hl ?_ 9 Tryd.underlying9
    intro i hi
    have hown : w.ownsRow base 5 1 (.slice (some ⟨g, 0, none⟩) n cap) n (ns.map (Value.int .u8)) := ⟨by simpa using hl, .inr ⟨g, cap, cur, rfl, hg, hb, hn, hm, hs, ht⟩⟩
    have := hown.cellAt i (by omega)
    rw [Nat.zero_add, this, List.getElem?_map, List.getElem?_eq_getElem (by omega)]
    simp [List.getD, List.getElem?_eq_getElem (show i < ns.length by omega)]

theorem infoU8 : (Tryd.prog.info? 5).map (fun i => (i.zero, i.size, i.bytes)) = some (some (.int .u8 0), 1, 1) := by kernel_rfl

/-- One byte more behind an owned row: what an append leaves. -/
theorem own_snoc {w : World} {base : Nat} {v : Value} {n : Nat} {ns : List Int} {x : Int} (h : w.ownsRow base 5 1 v (n + 1) (ns.map (Value.int .u8) ++ [Value.int .u8 x])) :
    w.ownsRow base 5 1 v (n + 1) ((ns ++ [x]).map (Value.int .u8)) := by simpa using h

theorem one_cell (w : World) (o : Value) (t : TypeId) : ∀ j u, [o][j]? = some u → (w.alloc (.cells #[o] t)).cell? ((⟨w.heap.size, 0, none⟩ : Addr).add j) = some u := by
  intro j u hj
  match j, hj with
  | 0, hj => simp at hj; subst hj; simp [Addr.add]

theorem one_oneCell (k : IntKind) (x : Int) : ∀ u ∈ [Value.int k x], u.oneCell' = true := by intro u hu; simp at hu; subst hu; rfl
/-- Below, behind an append to a row that the call itself made. -/
theorem below_app {B : Nat} {w wr w1 : World} {e : TypeId} {size n : Nat} {v : Value} {xs : List Value} {o : Obj} (hb : Below B w wr) (hB : B ≤ w.heap.size) (hown : wr.ownsRow B e size v n xs) (hg : (wr.alloc o).grownBy w1 v.ownBlock) : Below B w w1 := by
  have hs := hb.size
  exact (hb.alloc (by omega) o).grown hg (by simp; omega) (fun k e => (hown.lt k e).1)
theorem retB {a b : Bool} (h : a = true ↔ b = true) : Ending.returned (.bool a) = .returned (.bool b) := by rw [Bool.eq_iff_iff.2 h]
theorem byte_le (s : ByteArray) (k : Nat) (h : k < s.size) : 0 ≤ (s[k].toNat : Int) ∧ (s[k].toNat : Int) ≤ 255 := by have := s[k].toNat_lt; omega
theorem take_snoc (s : ByteArray) (k : Nat) (h : k < s.size) : s.data.toList.take (k + 1) = s.data.toList.take k ++ [s[k]] := by
  rw [List.take_succ_eq_append_getElem (by simpa using h)]; rfl
theorem take_all (s : ByteArray) (k : Nat) (h : s.size ≤ k) : s.data.toList.take k = s.data.toList := List.take_of_length_le (by simpa using h)

/-- The copy of a string that fits into a row of the call's own. -/
theorem wpList_copy_str {P : Program} {w : World} {ops : Array Oper} {rest : List Oper} {o : Oper} {a : Act} {Q : Exit → Act → World → Prop} (hgd : o.guard = none) (d s : Operand) (dT sT : TypeId)
    (ho : o.op = .call { callee := .builtin .copy, args := #[d, s], argTypes := #[dT, sT] }) (elem : TypeId) (hu : P.underlying dT = some (.slice elem)) (hsz : (P.info? elem).map (·.size) = some 1)
    (dp : Option Addr) (dLen dCap : Nat) (str : ByteArray) (hd : a.eval d = .slice dp dLen dCap) (hs : a.eval s = .string str)
    (g off : Nat) (cur : List Value) (t : TypeId) (hg : w.heap[g]? = some (.cells cur.toArray t (0, 0))) (hn : str.size ≤ dLen)
    (hpos : 0 < str.size → dp = some ⟨g, off, none⟩) (hfit : off + str.size ≤ cur.length) (B : Nat) (w0 : World) (hb : Below B w0 w) (hBg : B ≤ g)
    (h : ∀ w', Hid (w'.heap[g]? = some (.cells (splice cur off (Lib.byteCells str.data.toList)).toArray t (0, 0))) → Below B w0 w' → wpList P ops Q rest (a.put o.dst (goInt str.size)) w') :
    wpList P ops Q (o :: rest) a w := by
  have hlen : (Lib.byteCells str.data.toList).length = str.size := by rw [Lib.byteCells_length, ← Lib.size_eq]
  by_cases h0 : str.size = 0
  · refine wpList_plain hgd fun K hK => ?_
    have hrun := Lib.run_copy_empty_string (P := P) w dT sT o.type elem dp dLen dCap str hu (by cases hq : P.info? elem <;> simp [hq] at hsz ⊢) h0
    unfold Oper.wp
    simp [execOp, ho, resolve, invoke, builtin, hd, hs, hrun, Result.andThen]
    have this : Lib.byteCells str.data.toList = [] := List.eq_nil_of_length_eq_zero (by omega)
    have hw := h w (show _ = _ by rw [this]; simpa [splice] using hg) hb
    rw [h0] at hw
    exact hK _ _ hw
  · obtain rfl := hpos (by omega)
    refine wpList_plain hgd fun K hK => ?_
    have hrun := Lib.run_copy_row_string (P := P) w dT sT o.type elem g off dLen dCap str cur.toArray t hu hsz hg hn (by simpa using hfit)
    unfold Oper.wp
    simp [execOp, ho, resolve, invoke, builtin, hd, hs, hrun, Result.andThen]
    refine hK _ _ (h _ (show _ = _ from ?_) (below_setRow hb hBg _))
    have := setRow_heap w g cur.toArray (splice cur off (Lib.byteCells str.data.toList)).toArray t (0, 0) hg
    rw [← this]
    simp [splice, hlen]

/-- A block of bytes known whole is an owned row. -/
theorem own_block {w : World} {base g : Nat} {l : List Value} (hB : base ≤ g) (hm : l.length ≤ maxLen) (h : w.heap[g]? = some (.cells l.toArray 5 (0, 0))) :
    w.ownsRow base 5 1 (.slice (some ⟨g, 0, none⟩) l.length l.length) l.length l :=
  ⟨by simp, .inr ⟨g, l.length, l.toArray, rfl, hB, h, Nat.le_refl _, hm, by simp, by simp⟩⟩
theorem byteCells_nums (l : List UInt8) : Lib.byteCells l = (l.map fun b => (b.toNat : Int)).map (Value.int .u8) := by simp [Lib.byteCells]
theorem strOfNums_bytes (l : List UInt8) : strOfNums (l.map fun b => (b.toNat : Int)) = ⟨l.toArray⟩ := by
  unfold strOfNums; rw [List.map_map]
  have : ((fun n : Int => UInt8.ofNat n.toNat) ∘ fun b : UInt8 => (b.toNat : Int)) = id := by funext b; simp
  rw [this, List.map_id]
/-- The bytes of an owned row. -/
theorem own_bytes {w : World} {base : Nat} {v : Value} {n : Nat} {l : List UInt8} (h : w.ownsRow base 5 1 v n (Lib.byteCells l)) :
    (convert 118 9 v).run Tryd.prog w = .ok (.string ⟨l.toArray⟩) w := by
  rw [byteCells_nums] at h
  rw [own_string h, strOfNums_bytes]
theorem splice_two {α : Type} (Z X Y : List α) (hZ : Z.length = X.length + Y.length) : splice (splice Z 0 X) X.length Y = X ++ Y := by
  simp [splice, List.drop_append]; omega
theorem str_append (a b : ByteArray) : (⟨(a.data.toList ++ b.data.toList).toArray⟩ : ByteArray) = a ++ b := by
  apply ByteArray.ext; simp
theorem byteCells_append (a b : List UInt8) : Lib.byteCells a ++ Lib.byteCells b = Lib.byteCells (a ++ b) := by simp [Lib.byteCells]
abbrev textOut (s : ByteArray) (at_ code : Int) : Value := .agg #[.string s, .int .i64 at_, .int .i64 code]
theorem bcell {W w1 : World} (hb : Below W.heap.size W w1) : (∀ b o, b < W.heap.size → w1.cell? ⟨b, o, none⟩ = W.cell? ⟨b, o, none⟩) ∧ (∀ b o, b < W.heap.size → w1.frozen? ⟨b, o, none⟩ = W.frozen? ⟨b, o, none⟩) :=
  ⟨fun b o h => hb.cell (p := ⟨b, o, none⟩) h, fun b o h => hb.frozen (p := ⟨b, o, none⟩) h⟩
theorem below_four {w w1 w2 w3 : World} {o1 o2 : Obj} (hb1 : Below w.heap.size w w1) (hb2 : Below (w1.alloc o1).heap.size (w1.alloc o1) w2) (hb3 : Below (w2.alloc o2).heap.size (w2.alloc o2) w3) : Below w.heap.size w w3 := by
  have h1 := hb1.size
  have h2 := hb2.size
  simp at h2
  exact (((hb1.alloc h1 o1).trans (hb2.mono (by simp; omega))).alloc (by omega) o2).trans (hb3.mono (by simp; omega))

end Go.Proofs.YtjnbhppnchmeoaaDoor

namespace Go.Proofs.YtjnbhppnchmeoaaDoor
open Go.RowKit
set_option linter.unusedVariables false

/-- Block g holds just these cells, none of them frozen. -/
def Blk (w : World) (g : Nat) (t : TypeId) (cs : List Value) : Prop := w.heap[g]? = some (.cells cs.toArray t (0, 0))
section
variable {w w' : World} {g : Nat} {t : TypeId} {cs : List Value}
theorem Blk.lt (h : Blk w g t cs) : g < w.heap.size := by
  rcases Nat.lt_or_ge g w.heap.size with hl | hl
  · exact hl
  · unfold Blk at h; rw [Array.getElem?_eq_none hl] at h; cases h
theorem Blk.cell (h : Blk w g t cs) {i : Nat} {v : Value} (hi : cs[i]? = some v) : w.cell? ⟨g, i, none⟩ = some v := by
  rw [cell_of_row w g i _ t (0, 0) h]; simpa using hi
theorem Blk.froz (h : Blk w g t cs) (i : Nat) : w.frozen? ⟨g, i, none⟩ = false := by
  unfold Blk at h; simp [World.frozen?, h]
theorem Blk.heap (h : Blk w g t cs) : w.heap[g]? = some (.cells cs.toArray t (0, 0)) := h
theorem Blk.drewN (h : Blk w g t cs) (n : Nat) : Blk (w.drewN n) g t cs := h
theorem Blk.drew (h : Blk w g t cs) : Blk w.drew g t cs := h
theorem Blk.alloc (h : Blk w g t cs) (o : Obj) : Blk (w.alloc o) g t cs := (Below.heap_alloc w o g h.lt).trans h
theorem Blk.fresh (w : World) (t : TypeId) (cs : List Value) : Blk (w.alloc (.cells cs.toArray t)) w.heap.size t cs := by
  unfold Blk; show (w.heap.push _)[w.heap.size]? = _; simp
theorem Blk.put (h : Blk w g t cs) (i : Nat) (u : Value) : Blk (w.setCell ⟨g, i, none⟩ u) g t (cs.set i u) := by
  unfold Blk at h ⊢; simp [World.setCell, Array.getElem?_modify, h]
theorem Blk.far (h : Blk w g t cs) {p : Addr} (hp : g ≠ p.block) (u : Value) : Blk (w.setCell p u) g t cs := (Below.heap_setCell w p u g hp).trans h
theorem Blk.below {B : Nat} (h : Blk w g t cs) (hb : Below B w w') (hg : g < B) : Blk w' g t cs := (hb.block g hg).trans h
theorem Blk.grown {row : Option Nat} (h : Blk w g t cs) (hb : w.grownBy w' row) (hg : some g ≠ row) : Blk w' g t cs := (hb.block g h.lt hg).trans h
theorem Blk.setRow (h : Blk w g t cs) (ds : List Value) : Blk (w.setRow g ds.toArray) g t ds := setRow_heap w g _ _ t (0, 0) h
theorem Blk.row_far (h : Blk w g t cs) {k : Nat} (hk : g ≠ k) (ds : Array Value) : Blk (w.setRow k ds) g t cs := (setRow_other w k g ds hk).trans h
end
theorem below_drewN {B : Nat} {a w : World} (h : Below B a w) (n : Nat) : Below B a (w.drewN n) := ⟨h.os, h.tape, h.output, h.size, h.block⟩
theorem below_drew {B : Nat} {a w : World} (h : Below B a w) : Below B a w.drew := ⟨h.os, h.tape, h.output, h.size, h.block⟩
theorem quiet_eq {P : Program} {f : FuncId} {args : Array Value} {w : World} {n : Nat} {v : Value}
    (h : Calls P f args (w.drewN n) fun e w' => e = .returned v ∧ w.drewN n = w') : Calls P f args (w.drewN n) fun e w'' => e = .returned v ∧ ∃ m, w'' = w.drewN m :=
  h.mono fun _ _ ⟨he, hm⟩ => ⟨he, n, hm.symm⟩

/-- A whole value stored into the block that was made last. -/
theorem wpList_store_new {P : Program} {ops : Array Oper} {rest : List Oper} {o : Oper} {a : Act} {w : World} {Q : Exit → Act → World → Prop} (hgd : o.guard = none) (ty : TypeId) (x y : Operand) (ho : o.op = .store ty x y)
    (old : Array Value) (t : TypeId) (cells : List Value) (hx : a.eval x = .pointer (some ⟨w.heap.size, 0, none⟩)) (hy : a.eval y = .agg cells.toArray)
    (hi : (P.info? ty).map (·.size) = some cells.toArray.size) (hold : old.size = cells.toArray.size) (h1 : cells.toArray.all (·.oneCell') = true)
    (h : ∀ w2, Blk w2 w.heap.size t cells → Below w.heap.size w w2 → wpList P ops Q rest (a.put o.dst undef) w2) : wpList P ops Q (o :: rest) a (w.alloc (.cells old t)) := by
  have hn : Blk (w.alloc (.cells old t)) w.heap.size t old.toList := by
    have := Blk.fresh w t old.toList
    simpa using this
  refine wpList_store_row hgd ty x y ho w.heap.size cells.toArray hx hy t old (by simpa using hn.heap) hi hold h1 (h _ (hn.setRow cells) ?_)
  exact below_setRow ((Below.refl _ _).alloc (Nat.le_refl _) _) (Nat.le_refl _) _

/-- n cells, each an integer of one kind. -/
def ints (k : IntKind) (n : Nat) (f : Nat → Int) : List Value := (List.range n).map fun i => Value.int k (f i)
theorem ints_len (k : IntKind) (n : Nat) (f : Nat → Int) : (ints k n f).length = n := by simp [ints]
theorem ints_get {k : IntKind} {n : Nat} {f : Nat → Int} {i : Nat} (h : i < n) : (ints k n f)[i]? = some (.int k (f i)) := by simp [ints, h]
theorem ints_set {k : IntKind} {n : Nat} {f : Nat → Int} {i : Nat} {v : Int} (h : i < n) : (ints k n f).set i (.int k v) = ints k n (fun j => if j = i then v else f j) := by
  apply List.ext_getElem?
  intro j
  unfold ints
  rw [List.getElem?_set]
  by_cases hj : i = j
  · subst hj; simp [h]
  · simp [hj]
    by_cases hn : j < n
    · simp [hn, Ne.symm hj]
    · simp [hn]
theorem ints_congr {k : IntKind} {n : Nat} {f g : Nat → Int} (h : ∀ i, i < n → f i = g i) : ints k n f = ints k n g := by
  unfold ints; apply List.map_congr_left; intro i hi; rw [h i (by simpa using hi)]
theorem ints_one (k : IntKind) (n : Nat) (f : Nat → Int) : (ints k n f).toArray.all (·.oneCell') = true := by
  simp [ints, Value.oneCell']
end Go.Proofs.YtjnbhppnchmeoaaDoor

namespace Go.Proofs.YtjnbhppnchmeoaaDoor
open Go.RowKit
set_option linter.unusedVariables false

/-- A class of worlds, told by a map from some type. -/
theorem class_of (S : World → Prop) : ∃ (I : Type) (f : I → World), ∀ W, (∃ s, W = f s) ↔ S W :=
  ⟨{ W : World // S W }, Subtype.val, fun W => ⟨fun ⟨s, e⟩ => e ▸ s.2, fun h => ⟨⟨W, h⟩, rfl⟩⟩⟩

theorem wp_region_kept {P : Program} {id : Nat} {Q : Exit → Act → World → Prop} {a : Act} {w : World} {l : List Oper} {I : Type} (f : I → World) (hm : P.follows .mixedOrders = true) (hB : Region.lexB .any l.toArray = true) (h0 : ∃ s, w.drew = f s)
    (h : wpQuiet P l.toArray (fun w' => ∃ s, w' = f s) (fun a' => ∀ w', (∃ s, w' = f s) → Q .normal a' w') l a) : (Code.region id l.toArray true).wp P Q a w :=
  wp_region_quiet (C := fun w' => ∃ s, w' = f s) hm hB h0 (by simpa using h)

/-- The worlds that come of w by making memory. -/
theorem class_grown (w : World) : ∃ (I : Type) (f : I → World), Nonempty I ∧ (∃ s, w.drew = f s) ∧ (∀ s, Below w.heap.size w (f s)) ∧ (∀ s W', Below (f s).heap.size (f s) W' → ∃ s', W' = f s') ∧ (∀ W, (∃ s, W = f s) → Below w.heap.size w W) := by
  obtain ⟨I, f, hf⟩ := class_of (fun W => Below w.heap.size w W)
  have h0 : ∃ s, w.drew = f s := (hf _).2 (below_drew (Below.refl _ _))
  exact ⟨I, f, ⟨h0.choose⟩, h0, fun s => (hf _).1 ⟨s, rfl⟩, fun s W' h => (hf _).2 (((hf _).1 ⟨s, rfl⟩).trans (h.mono ((hf _).1 ⟨s, rfl⟩).size)), fun W h => (hf _).1 h⟩
theorem kept_cell {w W : World} {a : Addr} {v : Value} (h : Below w.heap.size w W) (hc : w.cell? a = some v) : W.cell? a = some v := by
  rw [← hc]; exact World.cell?_of_block (h.block _ (World.block_lt_of_cell? w a hc))
theorem row_off {w : World} {base n size : Nat} {e : TypeId} {v : Value} {xs : List Value} (h : w.ownsRow base e size v n xs) {p : Addr} (hp : v.ownBlock ≠ some p.block) (u : Value) : (w.setCell p u).ownsRow base e size v n xs :=
  h.kept (row := some p.block) ⟨rfl, rfl, rfl, by simp [World.setCell], fun k _ hne => Below.heap_setCell w p u k (fun e => hne (by rw [e]))⟩ (.inr hp)
theorem cell_put_far {w : World} {a p : Addr} {v : Value} (h : w.cell? a = some v) (hne : a.block ≠ p.block) (u : Value) : (w.setCell p u).cell? a = some v := by
  rw [← h]; exact World.cell?_of_block (Below.heap_setCell w p u _ hne)
theorem row_cell {w : World} {base g n c size : Nat} {e : TypeId} {xs : List Value} (h : w.ownsRow base e size (.slice (some ⟨g, 0, none⟩) n c) n xs) {j : Nat} (hj : j < n * size) : ∃ u, w.cell? ⟨g, j, none⟩ = some u := by
  have hl := h.1
  exact ⟨xs[j]'(by omega), by rw [h.cellAt j hj, List.getElem?_eq_getElem]⟩

end Go.Proofs.YtjnbhppnchmeoaaDoor

namespace Go.Proofs.YtjnbhppnchmeoaaDoor
open Go.RowKit
set_option linter.unusedVariables false

abbrev numOut (n p c : Int) : Value := .agg #[.int .i64 n, .int .i64 p, .int .i64 c]
/-- What is read at p: an error's number, or the unsigned number and how many bytes it has; n: how many bytes may follow, k: how many are read, u: what they hold. -/
def rd (s : ByteArray) (p : Nat) : Nat → Nat → Nat → Except Int (Nat × Nat)
  | 0, _, _ => .error 3
  | n + 1, k, u => if h : p + k < s.size then
      if k = 9 ∧ 1 < s[p + k].toNat then .error 3
      else if s[p + k].toNat < 128 then (if s[p + k].toNat = 0 ∧ 0 < k then .error 3 else .ok (u + s[p + k].toNat * 2 ^ (7 * k), k + 1))
      else rd s p n (k + 1) (u + s[p + k].toNat % 128 * 2 ^ (7 * k))
    else .error 4
def unzig (u : Nat) : Int := if u % 2 = 1 then -((u / 2 : Nat) : Int) - 1 else ((u / 2 : Nat) : Int)
def numV (p : Nat) : Except Int (Nat × Nat) → Value
  | .error c => numOut 0 0 c
  | .ok (u, m) => numOut (unzig u) ((p : Int) + m) 0

section
variable {s : ByteArray} {p k u : Nat}
theorem rd_short (hk : k ≤ 9) (h : ¬ p + k < s.size) : rd s p (10 - k) k u = .error 4 := by
  rw [show 10 - k = (9 - k) + 1 by omega, rd, dif_neg h]
theorem rd_ten (hk : k = 9) (h : p + k < s.size) (hb : 1 < s[p + k].toNat) : rd s p (10 - k) k u = .error 3 := by
  rw [show 10 - k = (9 - k) + 1 by omega, rd, dif_pos h, if_pos ⟨hk, hb⟩]
theorem rd_zero (hk : k ≤ 9) (h : p + k < s.size) (hb : s[p + k].toNat = 0) (h0 : 0 < k) : rd s p (10 - k) k u = .error 3 := by
  rw [show 10 - k = (9 - k) + 1 by omega, rd, dif_pos h, if_neg (by omega), if_pos (by omega), if_pos ⟨hb, h0⟩]
theorem rd_done (hk : k ≤ 9) (h : p + k < s.size) (hb : s[p + k].toNat < 128) (h9 : ¬ (k = 9 ∧ 1 < s[p + k].toNat)) (h0 : ¬ (s[p + k].toNat = 0 ∧ 0 < k)) :
    rd s p (10 - k) k u = .ok (u + s[p + k].toNat * 2 ^ (7 * k), k + 1) := by
  rw [show 10 - k = (9 - k) + 1 by omega, rd, dif_pos h, if_neg h9, if_pos hb, if_neg h0]
theorem rd_more (hk : k < 9) (h : p + k < s.size) (hb : ¬ s[p + k].toNat < 128) :
    rd s p (10 - k) k u = rd s p (10 - (k + 1)) (k + 1) (u + s[p + k].toNat % 128 * 2 ^ (7 * k)) := by
  rw [show 10 - k = (10 - (k + 1)) + 1 by omega, rd, dif_pos h, if_neg (by omega), if_neg hb]
end

theorem pow7 (k : Nat) : 2 ^ (7 * (k + 1)) = 128 * 2 ^ (7 * k) := by rw [show 7 * (k + 1) = 7 + 7 * k by omega, Nat.pow_add]
theorem pow7_le {k : Nat} (hk : k ≤ 9) : 2 ^ (7 * k) ≤ 9223372036854775808 := by
  have : 2 ^ (7 * k) ≤ 2 ^ 63 := Nat.pow_le_pow_right (by omega) (by omega)
  exact this
/-- Seven bits more: what has been read stays below the next power. -/
theorem step_lt {k u b : Nat} (hu : u < 2 ^ (7 * k)) (hb : b < 128) : u + b * 2 ^ (7 * k) < 2 ^ (7 * (k + 1)) := by
  rw [pow7]
  have : b * 2 ^ (7 * k) ≤ 127 * 2 ^ (7 * k) := Nat.mul_le_mul_right _ (by omega)
  omega
theorem step_u64 {k u b : Nat} (hk : k ≤ 9) (hu : u < 2 ^ (7 * k)) (hb : b < 128) (h9 : ¬ (k = 9 ∧ 1 < b)) : u + b * 2 ^ (7 * k) < 18446744073709551616 := by
  by_cases h : k = 9
  · subst h
    have hb1 : b ≤ 1 := by omega
    have : b * 2 ^ (7 * 9) ≤ 1 * 2 ^ (7 * 9) := Nat.mul_le_mul_right _ hb1
    have e : 2 ^ (7 * 9) = 9223372036854775808 := by decide
    rw [e] at *
    omega
  · have h1 := step_lt hu hb
    have h2 := pow7_le (k := k + 1) (by omega)
    omega
/-- The sum as the walk writes it. -/
theorem step_wrap {k u b : Nat} (hk : k ≤ 9) (hu : u < 2 ^ (7 * k)) (hb : b < 128) (h9 : ¬ (k = 9 ∧ 1 < b)) :
    IntKind.u64.wrap ((u : Int) + IntKind.u64.wrap ((b : Int) * 2 ^ (7 * k))) = ((u + b * 2 ^ (7 * k) : Nat) : Int) := by
  have h := step_u64 hk hu hb h9
  have e : (b : Int) * 2 ^ (7 * k) = ((b * 2 ^ (7 * k) : Nat) : Int) := by simp
  rw [e, IntKind.wrap_u64, IntKind.wrap_u64]
  omega
/-- An or of what lies apart is a sum. -/
theorem or_add {k u b : Nat} (hu : u < 2 ^ (7 * k)) : u ||| b * 2 ^ (7 * k) = u + b * 2 ^ (7 * k) := by
  have := Nat.two_pow_add_eq_or_of_lt (i := 7 * k) (b := u) hu b
  rw [Nat.mul_comm b, Nat.or_comm]
  omega

end Go.Proofs.YtjnbhppnchmeoaaDoor
