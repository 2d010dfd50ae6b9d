/- Small facts on memory and bytes that the contracts of this seat share. Rows of bytes that are known whole; joined. The contract of impl.joined. Blocks of memory that are known whole, rows of words, and how they are kept. -/
import Derived.Test.YtodnmbppgjbpmaaDoorChecked
import Derived.WalkKit
import Derived.Below
import Derived.Lib.Hide
import Derived.Laws.BitsAllLaws
import Derived.Laws.Closers25b
import Derived.Laws.BytesArg
import Derived.Laws.CopyOwn
import Derived.Lib.BufferWrite
import Derived.Deep.QuietTactic
import Derived.BigQuiet
import Derived.IntWalk
import Derived.Deep.Draws
import Derived.Laws.OwnMore
import Derived.Laws.Rows
import Derived.Laws.Tables
namespace Go.Proofs.YtodnmbppgjbpmaaDoor
open Go.RowKit
set_option linter.unusedVariables false

theorem retI {k : IntKind} {a b : Int} (h : a = b) : Ending.returned (.int k a) = .returned (.int k b) := by rw [h]
theorem retS {a b : ByteArray} (h : a = b) : Ending.returned (.string a) = .returned (.string b) := by rw [h]

theorem wf_i64 {n : Int} (h : (Lit.int .i64 n).wf = true) : -9223372036854775808 ≤ n ∧ n ≤ 9223372036854775807 := by
  simpa [Lit.wf, IntKind.min, IntKind.max, IntKind.signed, IntKind.bits] using h

/-- The bytes of an owned row of bytes. -/
theorem own_string {w : World} {base : Nat} {v : Value} {n : Nat} {ns : List Int} (h : w.ownsRow base 5 1 v n (ns.map (Value.int .u8))) :
    (convert 22 9 v).run Tryd.prog w = .ok (.string (strOfNums ns)) w := by
  obtain ⟨hl, hh⟩ := h
  simp at hl
  rcases hh with ⟨rfl, rfl⟩ | ⟨g, cap, cur, rfl, hg, hb, hn, hm, hs, ht⟩
  · have : ns = [] := by simpa using hl
    subst this
    exact run_convert_bytes_nil w 22 5 Tryd.underlying22 Tryd.underlying5 0 0 9 Tryd.underlying9
  · refine run_convert_bytes_arg w 22 5 Tryd.underlying22 Tryd.underlying5 g 0 n cap ns hl ?_ 9 Tryd.underlying9
    intro i hi
    have hown : w.ownsRow base 5 1 (.slice (some ⟨g, 0, none⟩) n cap) n (ns.map (Value.int .u8)) := ⟨by simpa using hl, .inr ⟨g, cap, cur, rfl, hg, hb, hn, hm, hs, ht⟩⟩
    have := hown.cellAt i (by omega)
    rw [Nat.zero_add, this, List.getElem?_map, List.getElem?_eq_getElem (by omega)]
    simp [List.getD, List.getElem?_eq_getElem (show i < ns.length by omega)]

theorem infoU8 : (Tryd.prog.info? 5).map (fun i => (i.zero, i.size, i.bytes)) = some (some (.int .u8 0), 1, 1) := by kernel_rfl

/-- One byte more behind an owned row: what an append leaves. -/
theorem own_snoc {w : World} {base : Nat} {v : Value} {n : Nat} {ns : List Int} {x : Int} (h : w.ownsRow base 5 1 v (n + 1) (ns.map (Value.int .u8) ++ [Value.int .u8 x])) :
    w.ownsRow base 5 1 v (n + 1) ((ns ++ [x]).map (Value.int .u8)) := by simpa using h

theorem one_cell (w : World) (o : Value) (t : TypeId) : ∀ j u, [o][j]? = some u → (w.alloc (.cells #[o] t)).cell? ((⟨w.heap.size, 0, none⟩ : Addr).add j) = some u := by
  intro j u hj
  match j, hj with
  | 0, hj => simp at hj; subst hj; simp [Addr.add]

theorem one_oneCell (k : IntKind) (x : Int) : ∀ u ∈ [Value.int k x], u.oneCell' = true := by intro u hu; simp at hu; subst hu; rfl
/-- Below, behind an append to a row that the call itself made. -/
theorem below_app {B : Nat} {w wr w1 : World} {e : TypeId} {size n : Nat} {v : Value} {xs : List Value} {o : Obj} (hb : Below B w wr) (hB : B ≤ w.heap.size) (hown : wr.ownsRow B e size v n xs) (hg : (wr.alloc o).grownBy w1 v.ownBlock) : Below B w w1 := by
  have hs := hb.size
  exact (hb.alloc (by omega) o).grown hg (by simp; omega) (fun k e => (hown.lt k e).1)
theorem retB {a b : Bool} (h : a = true ↔ b = true) : Ending.returned (.bool a) = .returned (.bool b) := by rw [Bool.eq_iff_iff.2 h]
theorem byte_le (s : ByteArray) (k : Nat) (h : k < s.size) : 0 ≤ (s[k].toNat : Int) ∧ (s[k].toNat : Int) ≤ 255 := by have := s[k].toNat_lt; omega
theorem take_snoc (s : ByteArray) (k : Nat) (h : k < s.size) : s.data.toList.take (k + 1) = s.data.toList.take k ++ [s[k]] := by
  rw [List.take_succ_eq_append_getElem (by simpa using h)]; rfl
theorem take_all (s : ByteArray) (k : Nat) (h : s.size ≤ k) : s.data.toList.take k = s.data.toList := List.take_of_length_le (by simpa using h)

/-- The copy of a string that fits into a row of the call's own. -/
theorem wpList_copy_str {P : Program} {w : World} {ops : Array Oper} {rest : List Oper} {o : Oper} {a : Act} {Q : Exit → Act → World → Prop} (hgd : o.guard = none) (d s : Operand) (dT sT : TypeId)
    (ho : o.op = .call { callee := .builtin .copy, args := #[d, s], argTypes := #[dT, sT] }) (elem : TypeId) (hu : P.underlying dT = some (.slice elem)) (hsz : (P.info? elem).map (·.size) = some 1)
    (dp : Option Addr) (dLen dCap : Nat) (str : ByteArray) (hd : a.eval d = .slice dp dLen dCap) (hs : a.eval s = .string str)
    (g off : Nat) (cur : List Value) (t : TypeId) (hg : w.heap[g]? = some (.cells cur.toArray t (0, 0))) (hn : str.size ≤ dLen)
    (hpos : 0 < str.size → dp = some ⟨g, off, none⟩) (hfit : off + str.size ≤ cur.length) (B : Nat) (w0 : World) (hb : Below B w0 w) (hBg : B ≤ g)
    (h : ∀ w', Hid (w'.heap[g]? = some (.cells (splice cur off (Lib.byteCells str.data.toList)).toArray t (0, 0))) → Below B w0 w' → wpList P ops Q rest (a.put o.dst (goInt str.size)) w') :
    wpList P ops Q (o :: rest) a w := by
  have hlen : (Lib.byteCells str.data.toList).length = str.size := by rw [Lib.byteCells_length, ← Lib.size_eq]
  by_cases h0 : str.size = 0
  · refine wpList_plain hgd fun K hK => ?_
    have hrun := Lib.run_copy_empty_string (P := P) w dT sT o.type elem dp dLen dCap str hu (by cases hq : P.info? elem <;> simp [hq] at hsz ⊢) h0
    unfold Oper.wp
    simp [execOp, ho, resolve, invoke, builtin, hd, hs, hrun, Result.andThen]
    have this : Lib.byteCells str.data.toList = [] := List.eq_nil_of_length_eq_zero (by omega)
    have hw := h w (show _ = _ by rw [this]; simpa [splice] using hg) hb
    rw [h0] at hw
    exact hK _ _ hw
  · obtain rfl := hpos (by omega)
    refine wpList_plain hgd fun K hK => ?_
    have hrun := Lib.run_copy_row_string (P := P) w dT sT o.type elem g off dLen dCap str cur.toArray t hu hsz hg hn (by simpa using hfit)
    unfold Oper.wp
    simp [execOp, ho, resolve, invoke, builtin, hd, hs, hrun, Result.andThen]
    refine hK _ _ (h _ (show _ = _ from ?_) (below_setRow hb hBg _))
    have := setRow_heap w g cur.toArray (splice cur off (Lib.byteCells str.data.toList)).toArray t (0, 0) hg
    rw [← this]
    simp [splice, hlen]

/-- A block of bytes known whole is an owned row. -/
theorem own_block {w : World} {base g : Nat} {l : List Value} (hB : base ≤ g) (hm : l.length ≤ maxLen) (h : w.heap[g]? = some (.cells l.toArray 5 (0, 0))) :
    w.ownsRow base 5 1 (.slice (some ⟨g, 0, none⟩) l.length l.length) l.length l :=
  ⟨by simp, .inr ⟨g, l.length, l.toArray, rfl, hB, h, Nat.le_refl _, hm, by simp, by simp⟩⟩
theorem byteCells_nums (l : List UInt8) : Lib.byteCells l = (l.map fun b => (b.toNat : Int)).map (Value.int .u8) := by simp [Lib.byteCells]
theorem strOfNums_bytes (l : List UInt8) : strOfNums (l.map fun b => (b.toNat : Int)) = ⟨l.toArray⟩ := by
  unfold strOfNums; rw [List.map_map]
  have : ((fun n : Int => UInt8.ofNat n.toNat) ∘ fun b : UInt8 => (b.toNat : Int)) = id := by funext b; simp
  rw [this, List.map_id]
/-- The bytes of an owned row. -/
theorem own_bytes {w : World} {base : Nat} {v : Value} {n : Nat} {l : List UInt8} (h : w.ownsRow base 5 1 v n (Lib.byteCells l)) :
    (convert 22 9 v).run Tryd.prog w = .ok (.string ⟨l.toArray⟩) w := by
  rw [byteCells_nums] at h
  rw [own_string h, strOfNums_bytes]
theorem splice_two {α : Type} (Z X Y : List α) (hZ : Z.length = X.length + Y.length) : splice (splice Z 0 X) X.length Y = X ++ Y := by
  simp [splice, List.drop_append]; omega
theorem str_append (a b : ByteArray) : (⟨(a.data.toList ++ b.data.toList).toArray⟩ : ByteArray) = a ++ b := by
  apply ByteArray.ext; simp
theorem byteCells_append (a b : List UInt8) : Lib.byteCells a ++ Lib.byteCells b = Lib.byteCells (a ++ b) := by simp [Lib.byteCells]
abbrev textOut (s : ByteArray) (at_ code : Int) : Value := .agg #[.string s, .int .i64 at_, .int .i64 code]
theorem bcell {W w1 : World} (hb : Below W.heap.size W w1) : (∀ b o, b < W.heap.size → w1.cell? ⟨b, o, none⟩ = W.cell? ⟨b, o, none⟩) ∧ (∀ b o, b < W.heap.size → w1.frozen? ⟨b, o, none⟩ = W.frozen? ⟨b, o, none⟩) :=
  ⟨fun b o h => hb.cell (p := ⟨b, o, none⟩) h, fun b o h => hb.frozen (p := ⟨b, o, none⟩) h⟩
theorem below_four {w w1 w2 w3 : World} {o1 o2 : Obj} (hb1 : Below w.heap.size w w1) (hb2 : Below (w1.alloc o1).heap.size (w1.alloc o1) w2) (hb3 : Below (w2.alloc o2).heap.size (w2.alloc o2) w3) : Below w.heap.size w w3 := by
  have h1 := hb1.size
  have h2 := hb2.size
  simp at h2
  exact (((hb1.alloc h1 o1).trans (hb2.mono (by simp; omega))).alloc (by omega) o2).trans (hb3.mono (by simp; omega))

end Go.Proofs.YtodnmbppgjbpmaaDoor

namespace Go.Proofs.YtodnmbppgjbpmaaDoor
open Go.RowKit
set_option linter.unusedVariables false

theorem sizeU8 : (Tryd.prog.info? 5).map (·.size) = some 1 := by kernel_rfl

/-- A row that is owned up to its capacity is its block. -/
theorem own_heap {w : World} {base g n : Nat} {e : TypeId} {xs : List Value} (h : w.ownsRow base e 1 (.slice (some ⟨g, 0, none⟩) n n) n xs) : w.heap[g]? = some (.cells xs.toArray e (0, 0)) := by
  obtain ⟨hl, hh⟩ := h
  rcases hh with ⟨h1, _⟩ | ⟨g', cap, cur, h1, _, hb, _, _, hs, ht⟩
  · cases h1
  · simp at h1
    obtain ⟨rfl, rfl⟩ := h1
    rw [hb]
    have : cur.toList = xs := by rw [← ht, List.take_of_length_le (by simp [hs])]
    rw [← this]
theorem own_heap' {w : World} {base g n : Nat} {e : TypeId} {xs : List Value} (h : w.ownsRow base e 1 (.slice (some ⟨g, 0, none⟩) n n) n xs) : ∃ Z : List Value, Hid (w.heap[g]? = some (.cells Z.toArray e (0, 0))) ∧ Z.length = n :=
  ⟨xs, own_heap h, by simpa using h.1⟩

theorem bc_len (a : ByteArray) : (Lib.byteCells a.data.toList).length = a.size := by rw [Lib.byteCells_length, ← Lib.size_eq]
theorem ne_empty {b : ByteArray} (h : 0 < b.size) : ¬ b = ByteArray.empty := by intro e; subst e; simp at h

theorem splice_len0 {Z : List Value} {a : ByteArray} {m : Nat} (h : Z.length = a.size + m) : (splice Z 0 (Lib.byteCells a.data.toList)).length = a.size + m := by
  rw [length_splice _ _ _ (by rw [bc_len]; omega), h]
theorem conv_two {w : World} {g n : Nat} {Z : List Value} {a b : ByteArray} (hn : n = a.size + b.size) (hs : n ≤ 1048576)
    (h : Hid (w.heap[g]? = some (.cells (splice (splice Z 0 (Lib.byteCells a.data.toList)) a.size (Lib.byteCells b.data.toList)).toArray 5 (0, 0)))) (hZ : Hid (Z.length = a.size + b.size)) :
    (convert 22 9 (.slice (some ⟨g, 0, none⟩) n n)).run Tryd.prog w = .ok (.string (a ++ b)) w := by
  have e : splice (splice Z 0 (Lib.byteCells a.data.toList)) a.size (Lib.byteCells b.data.toList) = Lib.byteCells (a.data.toList ++ b.data.toList) := by
    have := splice_two Z (Lib.byteCells a.data.toList) (Lib.byteCells b.data.toList) (by rw [bc_len, bc_len]; exact hZ.out)
    rw [bc_len] at this
    rw [this, byteCells_append]
  have h' := h.out
  rw [e] at h'
  have hl : (Lib.byteCells (a.data.toList ++ b.data.toList)).length = n := by rw [← byteCells_append, List.length_append, bc_len, bc_len, hn]
  rw [← str_append]
  refine own_bytes (base := 0) (n := n) ⟨by simpa using hl, .inr ⟨g, n, _, rfl, Nat.zero_le _, h', Nat.le_refl _, ?_, by simpa using hl, ?_⟩⟩
  · unfold maxLen; omega
  · rw [List.take_of_length_le (by simp [hl])]

end Go.Proofs.YtodnmbppgjbpmaaDoor

namespace Go.Proofs.YtodnmbppgjbpmaaDoor
open Go.RowKit
set_option linter.unusedVariables false

set_option maxHeartbeats 1600000 in
set_option maxRecDepth 1000000 in
theorem joined_any (a b : ByteArray) (w : World) (hab : a.size + b.size ≤ 1048576) :
    Calls Tryd.prog 133 #[.string a, .string b] w fun e w' => e = .returned (.string (a ++ b)) ∧ Below w.heap.size w w' := by
  obtain ⟨i0, hi, hz0, hz1, hz2⟩ := info_parts infoU8
  have hA : (a.size : Int) + (b.size : Int) = ((a.size + b.size : Nat) : Int) := by omega
  have HA := Lib.hid hA
  clear hA
  go_enter Tryd.func133, Tryd.ntmps133
  go_wp2_with (first
    | (at_make; refine wpList_make_full _ rfl _ _ 22 rfl w.heap.size 5 i0 (.int .u8 0) 1 Tryd.underlying22 hi hz0 hz1 _ _ _ _ (a.size + b.size) rfl rfl HA.out HA.out (by rw [hz2]; omega) (by unfold maxLen; omega) (Nat.le_refl _) ?_; intro w1 hown1 hgrow1; obtain ⟨Z, HG1, hZ⟩ := own_heap' hown1; have HZ := Lib.hid hZ; clear hZ; have hb1 := (Below.refl w.heap.size w).grown hgrow1 (Nat.le_refl _) (fun k e => by cases e); clear hown1 hgrow1)
    | ((with_reducible refine wpList_copy_str rfl (.tmp 12) (.tmp 13) 22 9 rfl 5 Tryd.underlying22 sizeU8 _ _ _ a rfl rfl w.heap.size 0 _ 5 HG1.out (by omega) (fun _ => rfl) (by rw [HZ.out]; omega) w.heap.size w hb1 (Nat.le_refl _) ?_); intro w2 HG2 hb2; clear HG1 hb1)
    | ((with_reducible refine wpList_copy_str rfl (.tmp 18) (.tmp 19) 22 9 rfl 5 Tryd.underlying22 sizeU8 _ _ _ b rfl rfl w.heap.size a.size _ 5 HG2.out ?_ ?_ ?_ w.heap.size w hb2 (Nat.le_refl _) ?_); (omega); (intro h; rw [if_neg (ne_empty h)]); (have := splice_len0 HZ.out; omega); intro w3 HG3 hb3; clear HG2 hb2; have hcv := conv_two (n := a.size + b.size) rfl hab HG3 HZ))
  all_goals go_ret
  all_goals exact ⟨rfl, hb3⟩

end Go.Proofs.YtodnmbppgjbpmaaDoor

namespace Go.Proofs.YtodnmbppgjbpmaaDoor
open Go.RowKit
set_option linter.unusedVariables false

/-- Block g holds just these cells, none of them frozen. -/
def Blk (w : World) (g : Nat) (t : TypeId) (cs : List Value) : Prop := w.heap[g]? = some (.cells cs.toArray t (0, 0))
section
variable {w w' : World} {g : Nat} {t : TypeId} {cs : List Value}
theorem Blk.lt (h : Blk w g t cs) : g < w.heap.size := by
  rcases Nat.lt_or_ge g w.heap.size with hl | hl
  · exact hl
  · unfold Blk at h; rw [Array.getElem?_eq_none hl] at h; cases h
theorem Blk.cell (h : Blk w g t cs) {i : Nat} {v : Value} (hi : cs[i]? = some v) : w.cell? ⟨g, i, none⟩ = some v := by
  rw [cell_of_row w g i _ t (0, 0) h]; simpa using hi
theorem Blk.froz (h : Blk w g t cs) (i : Nat) : w.frozen? ⟨g, i, none⟩ = false := by
  unfold Blk at h; simp [World.frozen?, h]
theorem Blk.heap (h : Blk w g t cs) : w.heap[g]? = some (.cells cs.toArray t (0, 0)) := h
theorem Blk.drewN (h : Blk w g t cs) (n : Nat) : Blk (w.drewN n) g t cs := h
theorem Blk.drew (h : Blk w g t cs) : Blk w.drew g t cs := h
theorem Blk.alloc (h : Blk w g t cs) (o : Obj) : Blk (w.alloc o) g t cs := (Below.heap_alloc w o g h.lt).trans h
theorem Blk.fresh (w : World) (t : TypeId) (cs : List Value) : Blk (w.alloc (.cells cs.toArray t)) w.heap.size t cs := by
  unfold Blk; show (w.heap.push _)[w.heap.size]? = _; simp
theorem Blk.put (h : Blk w g t cs) (i : Nat) (u : Value) : Blk (w.setCell ⟨g, i, none⟩ u) g t (cs.set i u) := by
  unfold Blk at h ⊢; simp [World.setCell, Array.getElem?_modify, h]
theorem Blk.far (h : Blk w g t cs) {p : Addr} (hp : g ≠ p.block) (u : Value) : Blk (w.setCell p u) g t cs := (Below.heap_setCell w p u g hp).trans h
theorem Blk.below {B : Nat} (h : Blk w g t cs) (hb : Below B w w') (hg : g < B) : Blk w' g t cs := (hb.block g hg).trans h
theorem Blk.grown {row : Option Nat} (h : Blk w g t cs) (hb : w.grownBy w' row) (hg : some g ≠ row) : Blk w' g t cs := (hb.block g h.lt hg).trans h
theorem Blk.setRow (h : Blk w g t cs) (ds : List Value) : Blk (w.setRow g ds.toArray) g t ds := setRow_heap w g _ _ t (0, 0) h
theorem Blk.row_far (h : Blk w g t cs) {k : Nat} (hk : g ≠ k) (ds : Array Value) : Blk (w.setRow k ds) g t cs := (setRow_other w k g ds hk).trans h
end
theorem below_drewN {B : Nat} {a w : World} (h : Below B a w) (n : Nat) : Below B a (w.drewN n) := ⟨h.os, h.tape, h.output, h.size, h.block⟩
theorem below_drew {B : Nat} {a w : World} (h : Below B a w) : Below B a w.drew := ⟨h.os, h.tape, h.output, h.size, h.block⟩
theorem quiet_eq {P : Program} {f : FuncId} {args : Array Value} {w : World} {n : Nat} {v : Value}
    (h : Calls P f args (w.drewN n) fun e w' => e = .returned v ∧ w.drewN n = w') : Calls P f args (w.drewN n) fun e w'' => e = .returned v ∧ ∃ m, w'' = w.drewN m :=
  h.mono fun _ _ ⟨he, hm⟩ => ⟨he, n, hm.symm⟩

/-- A whole value stored into the block that was made last. -/
theorem wpList_store_new {P : Program} {ops : Array Oper} {rest : List Oper} {o : Oper} {a : Act} {w : World} {Q : Exit → Act → World → Prop} (hgd : o.guard = none) (ty : TypeId) (x y : Operand) (ho : o.op = .store ty x y)
    (old : Array Value) (t : TypeId) (cells : List Value) (hx : a.eval x = .pointer (some ⟨w.heap.size, 0, none⟩)) (hy : a.eval y = .agg cells.toArray)
    (hi : (P.info? ty).map (·.size) = some cells.toArray.size) (hold : old.size = cells.toArray.size) (h1 : cells.toArray.all (·.oneCell') = true)
    (h : ∀ w2, Blk w2 w.heap.size t cells → Below w.heap.size w w2 → wpList P ops Q rest (a.put o.dst undef) w2) : wpList P ops Q (o :: rest) a (w.alloc (.cells old t)) := by
  have hn : Blk (w.alloc (.cells old t)) w.heap.size t old.toList := by
    have := Blk.fresh w t old.toList
    simpa using this
  refine wpList_store_row hgd ty x y ho w.heap.size cells.toArray hx hy t old (by simpa using hn.heap) hi hold h1 (h _ (hn.setRow cells) ?_)
  exact below_setRow ((Below.refl _ _).alloc (Nat.le_refl _) _) (Nat.le_refl _) _

/-- n cells, each an integer of one kind. -/
def ints (k : IntKind) (n : Nat) (f : Nat → Int) : List Value := (List.range n).map fun i => Value.int k (f i)
theorem ints_len (k : IntKind) (n : Nat) (f : Nat → Int) : (ints k n f).length = n := by simp [ints]
theorem ints_get {k : IntKind} {n : Nat} {f : Nat → Int} {i : Nat} (h : i < n) : (ints k n f)[i]? = some (.int k (f i)) := by simp [ints, h]
theorem ints_set {k : IntKind} {n : Nat} {f : Nat → Int} {i : Nat} {v : Int} (h : i < n) : (ints k n f).set i (.int k v) = ints k n (fun j => if j = i then v else f j) := by
  apply List.ext_getElem?
  intro j
  unfold ints
  rw [List.getElem?_set]
  by_cases hj : i = j
  · subst hj; simp [h]
  · simp [hj]
    by_cases hn : j < n
    · simp [hn, Ne.symm hj]
    · simp [hn]
theorem ints_congr {k : IntKind} {n : Nat} {f g : Nat → Int} (h : ∀ i, i < n → f i = g i) : ints k n f = ints k n g := by
  unfold ints; apply List.map_congr_left; intro i hi; rw [h i (by simpa using hi)]
theorem ints_one (k : IntKind) (n : Nat) (f : Nat → Int) : (ints k n f).toArray.all (·.oneCell') = true := by
  simp [ints, Value.oneCell']
end Go.Proofs.YtodnmbppgjbpmaaDoor
