/- When a log is valid, as impl asks it and as spec asks it. A row of bytes that the call owns, told by its cells: what a conversion of a string leaves, and appends to it. The contract of frameCut; the bytes of a converted string. -/
import Derived.Test.YtebkblmejkkhfaaGreatDoorScope3W
import Derived.Test.YtebkblmejkkhfaaGreatDoorFrW
import Derived.Test.YtebkblmejkkhfaaGreatDoorFilRightW
import Derived.Test.YtebkblmejkkhfaaGreatDoorFilW
import Derived.Lib.ConvBytes
import Derived.ArgAppend
import Derived.Laws.IdiomCopy
import Derived.Lib.SlBytesRow
namespace Go.Proofs.YtebkblmejkkhfaaGreatDoor
open Go.RowKit
set_option linter.unusedVariables false

theorem str_beq_t {a b : ByteArray} (h : a = b) : (a.toList == b.toList) = true := by rw [h]; simp
theorem str_beq_f {a b : ByteArray} (h : ¬ a = b) : (a.toList == b.toList) = false := by
  rw [beq_eq_false_iff_ne]; intro e; rw [Lib.toList_data, Lib.toList_data] at e; exact h (ByteArray.ext (Array.toList_inj.1 e))
theorem str_bne_f {a b : ByteArray} (h : a = b) : (a.toList != b.toList) = false := by rw [bne, str_beq_t h]; rfl
theorem str_bne_t {a b : ByteArray} (h : ¬ a = b) : (a.toList != b.toList) = true := by rw [bne, str_beq_f h]; rfl
/-- The strings of a file's frames, and where they end. -/
noncomputable def tx (x : Fil) : List ByteArray := (frs x.data 0).map Prod.fst
noncomputable def en (x : Fil) : Nat := endOf (frs x.data 0)
noncomputable def allT (L : List Fil) : List ByteArray := L.flatMap tx
def numOK (f m : Int) : Bool := decide (0 ≤ f ∧ f ≤ 900000 ∧ f % 4 = 0 ∧ 0 ≤ m ∧ m ≤ 60 ∧ f + m ≤ 900000)
theorem numOK_iff {f m : Int} : numOK f m = true ↔ 0 ≤ f ∧ f ≤ 900000 ∧ f % 4 = 0 ∧ 0 ≤ m ∧ m ≤ 60 ∧ f + m ≤ 900000 := by simp [numOK]
/-- A file is the segment that it has to be. -/
def goodI (L : List Fil) (f m : Int) (i : Nat) (h : i < L.length) : Prop := L[i].name = segN (f + (i : Int) * 4) ∧ en L[i] = L[i].data.size ∧ ((tx L[i]).length : Int) = min 4 (m - (i : Int) * 4)
def goodS (L : List Fil) (f : Int) (i : Nat) (h : i < L.length) : Prop := L[i].name = segN (f + (i : Int) * 4) ∧ en L[i] = L[i].data.size ∧ (tx L[i]).length ≤ 4 ∧ (i + 1 < L.length → (tx L[i]).length = 4) ∧ (i + 1 = L.length → (tx L[i]).length ≠ 4)
open Classical in
/-- A log is valid. -/
noncomputable def logB (L : List Fil) (f m : Int) : Bool := decide (fsOK L = true ∧ numOK f m = true ∧ (L.length : Int) = m / 4 + 1 ∧ ∀ i (h : i < L.length), goodI L f m i h)
theorem logB_iff {L : List Fil} {f m : Int} : logB L f m = true ↔ fsOK L = true ∧ numOK f m = true ∧ (L.length : Int) = m / 4 + 1 ∧ ∀ i (h : i < L.length), goodI L f m i h := by simp [logB]
theorem allT_nil : allT [] = [] := rfl
theorem allT_take (L : List Fil) (k : Nat) (h : k < L.length) : allT (L.take (k + 1)) = allT (L.take k) ++ tx L[k] := by
  unfold allT
  rw [List.take_succ_eq_append_getElem h, List.flatMap_append, List.flatMap_cons, List.flatMap_nil, List.append_nil]
theorem allT_four (L : List Fil) : ∀ k, k ≤ L.length → (∀ i (h : i < L.length), i < k → (tx L[i]).length = 4) → (allT (L.take k)).length = 4 * k
  | 0, _, _ => rfl
  | k + 1, hk, h => by
    rw [allT_take L k (by omega), List.length_append, allT_four L k (by omega) (fun i hi hlt => h i hi (by omega)), h k (by omega) (by omega)]
    omega
theorem allT_len (L : List Fil) (h0 : 0 < L.length) (h : ∀ i (h : i < L.length), i + 1 < L.length → (tx L[i]).length = 4) : (allT L).length = 4 * (L.length - 1) + (tx (L[L.length - 1]'(by omega))).length := by
  have e := allT_take L (L.length - 1) (by omega)
  rw [List.take_of_length_le (by omega)] at e
  rw [e, List.length_append, allT_four L (L.length - 1) (by omega) (fun i hi hlt => h i hi (by omega))]
theorem log_spec {L : List Fil} {f m : Int} (h0 : 0 ≤ m) : ((∀ i (h : i < L.length), goodS L f i h) ∧ 0 < L.length ∧ ((allT L).length : Int) = m) ↔ ((L.length : Int) = m / 4 + 1 ∧ ∀ i (h : i < L.length), goodI L f m i h) := by
  constructor
  · rintro ⟨hs, hn, ht⟩
    have hl := allT_len L hn (fun i hi hlt => (hs i hi).2.2.2.1 hlt)
    obtain ⟨_, _, h4, _, h5⟩ := hs (L.length - 1) (by omega)
    have h5' := h5 (by omega)
    refine ⟨by omega, fun i hi => ?_⟩
    obtain ⟨a, b, c, d, e⟩ := hs i hi
    refine ⟨a, b, ?_⟩
    by_cases hlt : i + 1 < L.length
    · rw [d hlt]; omega
    · have : i = L.length - 1 := by omega
      subst this
      omega
  · rintro ⟨hn, hg⟩
    have key : ∀ i (hi : i < L.length), goodS L f i hi := fun i hi => by
      obtain ⟨a, b, c⟩ := hg i hi
      exact ⟨a, b, by omega, fun h => by omega, fun h => by omega⟩
    refine ⟨key, by omega, ?_⟩
    have hl := allT_len L (by omega) (fun i hi hlt => (key i hi).2.2.2.1 hlt)
    obtain ⟨_, _, c⟩ := hg (L.length - 1) (by omega)
    omega
theorem logB_not {L : List Fil} {f m : Int} {i : Nat} (hi : i < L.length) (h : ¬ goodI L f m i hi) : logB L f m = false := by
  cases e : logB L f m with
  | false => rfl
  | true => exact absurd ((logB_iff.1 e).2.2.2 i hi) h
theorem logB_spec {L : List Fil} {f m : Int} (h1 : fsOK L = true) (h2 : numOK f m = true) : logB L f m = true ↔ ((∀ i (h : i < L.length), goodS L f i h) ∧ 0 < L.length ∧ ((allT L).length : Int) = m) := by
  rw [logB_iff, log_spec (numOK_iff.1 h2).2.2.2.1]
  simp [h1, h2]
end Go.Proofs.YtebkblmejkkhfaaGreatDoor

namespace Go.Proofs.YtebkblmejkkhfaaGreatDoor
open Go.RowKit
set_option linter.unusedVariables false

/-- The slice v, of the cells xs, lies at the head of a block from base on; none of its cells, nor of its spare ones, is frozen. -/
def OwnB (w : World) (base : Nat) (v : Value) (xs : List Value) : Prop :=
  ∃ g cap, v = .slice (some ⟨g, 0, none⟩) xs.length cap ∧ base ≤ g ∧ g < w.heap.size ∧ xs.length ≤ cap ∧ (∀ j u, xs[j]? = some u → w.cell? ⟨g, j, none⟩ = some u) ∧
    (∀ j, j < cap → (w.cell? ⟨g, j, none⟩).isSome = true ∧ w.frozen? ⟨g, j, none⟩ = false)

theorem OwnB.of_block {w w' : World} {base : Nat} {v : Value} {xs : List Value} (h : OwnB w base v xs) (hb : ∀ g, base ≤ g → g < w.heap.size → w'.heap[g]? = w.heap[g]?) : OwnB w' base v xs := by
  obtain ⟨g, cap, rfl, h1, h2, h3, h4, h5⟩ := h
  have e := hb g h1 h2
  refine ⟨g, cap, rfl, h1, ?_, h3, fun j u hu => ?_, fun j hj => ⟨?_, ?_⟩⟩
  · rcases Nat.lt_or_ge g w'.heap.size with hl | hl
    · exact hl
    · rw [Array.getElem?_eq_none hl, Array.getElem?_eq_getElem h2] at e; cases e
  · rw [World.cell?_of_block (a := ⟨g, j, none⟩) e]; exact h4 j u hu
  · rw [World.cell?_of_block (a := ⟨g, j, none⟩) e]; exact (h5 j hj).1
  · rw [World.frozen?_of_block (a := ⟨g, j, none⟩) e]; exact (h5 j hj).2
theorem OwnB.below {w w' : World} {base : Nat} {v : Value} {xs : List Value} (h : OwnB w base v xs) (hb : Below w.heap.size w w') : OwnB w' base v xs := h.of_block fun g _ hg => hb.block g hg
theorem OwnB.alloc {w : World} {base : Nat} {v : Value} {xs : List Value} (h : OwnB w base v xs) (o : Obj) : OwnB (w.alloc o) base v xs := h.of_block fun g _ hg => Below.heap_alloc w o g hg
theorem OwnB.drewN {w : World} {base : Nat} {v : Value} {xs : List Value} (h : OwnB w base v xs) (n : Nat) : OwnB (w.drewN n) base v xs := h
theorem OwnB.lt {w : World} {base : Nat} {v : Value} {xs : List Value} (h : OwnB w base v xs) : ∀ k, v.ownBlock = some k → base ≤ k ∧ k < w.heap.size := by
  obtain ⟨g, cap, rfl, h1, h2, _⟩ := h
  intro k hk
  simp [Value.ownBlock] at hk
  subst hk; exact ⟨h1, h2⟩
theorem OwnB.of_own {w : World} {base n : Nat} {t : TypeId} {v : Value} {xs : List Value} (h : w.ownsRow base t 1 v n xs) (hn : 0 < n) : OwnB w base v xs := by
  rcases h.2 with ⟨_, h0⟩ | ⟨g, cap, cur, rfl, hb, hh, hc, hm, hs, ht⟩
  · omega
  · have hl : xs.length = n := by have := h.1; omega
    have hbl : Blk w g t cur.toList := by unfold Blk; simpa using hh
    refine ⟨g, cap, by rw [hl], hb, hbl.lt, by omega, fun j u hu => ?_, fun j hj => ⟨?_, hbl.froz j⟩⟩
    · have hj : j < n := by rw [← hl]; exact (List.getElem?_eq_some_iff.1 hu).1
      rw [← hu]
      exact World.ownsRow.cellAt (w := w) (g := g) (cap := cap) h j (by omega)
    · have : j < cur.toList.length := by simp; omega
      rw [hbl.cell (List.getElem?_eq_getElem this)]; rfl

/-- The conversion of a string to bytes. -/
theorem conv_own (w : World) (s : ByteArray) (base : Nat) (hb : base ≤ w.heap.size) :
    ∃ w', (convert 9 22 (.string s)).run Tryz.prog w = .ok (.slice (some ⟨w.heap.size, 0, none⟩) s.size (grownCap w s.size 0 5)) w' ∧
      OwnB w' base (.slice (some ⟨w.heap.size, 0, none⟩) s.size (grownCap w s.size 0 5)) (Lib.byteCells s.data.toList) ∧ Below w.heap.size w w' := by
  refine ⟨_, Lib.run_convert_string_bytes w 9 22 5 s Tryz.underlying9 Tryz.underlying22 Tryz.underlying5, ?_, ?_⟩
  · have hl : (Lib.byteCells s.data.toList).length = s.size := by rw [Lib.byteCells_length, ← Lib.size_eq]
    have hge := grownCap_ge w s.size 0 5
    have hsz : (Lib.bytesCells w 5 s).size = grownCap w s.size 0 5 := by simp [Lib.bytesCells]; omega
    refine ⟨w.heap.size, _, by rw [hl], hb, by rw [Lib.bytesWorld_size]; omega, by rw [hl]; exact hge, fun j u hu => ?_, fun j hj => ⟨?_, ?_⟩⟩
    · have hj : j < s.size := by rw [← hl]; exact (List.getElem?_eq_some_iff.1 hu).1
      rw [Lib.bytesWorld_cell w _ s j hj, ← hu]
      have hj' : j < s.data.size := hj
      have e1 : s.data[j]? = some s.data[j] := Array.getElem?_eq_getElem hj'
      simp [Lib.byteCells, List.getD, e1]
    · rw [cell_of_row _ _ j _ _ _ (Lib.bytesWorld_at_new w 5 s), Array.getElem?_eq_getElem (by rw [hsz]; exact hj)]; rfl
    · simp only [World.frozen?, Lib.bytesWorld_at_new]
      simp; intro h; omega
  · exact ⟨rfl, rfl, rfl, by rw [Lib.bytesWorld_size]; omega, fun i hi => Lib.bytesWorld_at_old w _ s i hi⟩

theorem wpList_conv_bytes {ops : Array Oper} {rest : List Oper} {o : Oper} {a : Act} {w : World} {Q : Exit → Act → World → Prop} (hgd : o.guard = none) (x : Operand) (ho : o.op = .convert 9 22 x)
    (s : ByteArray) (base : Nat) (hx : a.eval x = .string s) (hb : base ≤ w.heap.size)
    (h : ∀ v w', OwnB w' base v (Lib.byteCells s.data.toList) → Below w.heap.size w w' → wpList Tryz.prog ops Q rest (a.put o.dst v) w') : wpList Tryz.prog ops Q (o :: rest) a w := by
  refine wpList_plain hgd fun K hK => ?_
  obtain ⟨w', hrun, h1, h2⟩ := conv_own w s base hb
  unfold Oper.wp execOp
  simp only [ho, hx, Sem.run_bind, hrun, Result.andThen_ok, Sem.run_pure]
  exact hK _ _ (h _ w' h1 h2)

set_option maxRecDepth 1000000 in
/-- One element appended. -/
theorem run_append_B (w : World) (base : Nat) (t ty e : TypeId) (i : TypeInfo) (z : Value) (bytes : Nat) (ht : Tryz.prog.underlying t = some (.slice e)) (hi : Tryz.prog.info? e = some i) (hz : i.zero = some z)
    (hsize : i.size = 1) (hby : i.bytes = bytes) (hzs : z.cells.size = 1) (v : Value) (xs : List Value) (h : OwnB w base v xs) (ad : Addr) (c : Nat) (x : Value) (hx : w.cell? ad = some x) (h1 : x.oneCell' = true)
    (h63 : xs.length + 1 ≤ maxLen) (hbytes : (xs.length + 1) * bytes ≤ 140737488355328) (hbase : base ≤ w.heap.size) :
    ∃ v' w', (Builtin.append_ #[t, t] ty #[v, .slice (some ad) 1 c]).run Tryz.prog w = .ok v' w' ∧ OwnB w' base v' (xs ++ [x]) ∧ w.grownBy w' v.ownBlock := by
  obtain ⟨g, cap, rfl, g1, g2, g3, g4, g5⟩ := h
  have hnews : ∀ j u, [x][j]? = some u → w.cell? (ad.add j) = some u := fun j u hu => by
    match j, hu with
    | 0, hu => simp at hu; subst hu; simpa [Addr.add] using hx
  have hone : ∀ u ∈ [x], u.oneCell' = true := fun u hu => by simp at hu; subst hu; exact h1
  by_cases hroom : xs.length + 1 ≤ cap
  · have hr := run_append_room_cells (P := Tryz.prog) w t ty e i ht hi g 0 xs.length cap ad 1 c [x] (by rw [hsize]; rfl) hnews hone hroom
      (fun j hj => by simp at hj; subst hj; simpa [hsize] using (g5 xs.length (by omega)).1) (fun j hj => by simp at hj; subst hj; simpa [hsize] using (g5 xs.length (by omega)).2)
    have e0 : 0 + xs.length * i.size = xs.length := by rw [hsize]; omega
    rw [e0] at hr
    have hset : w.setCells g xs.length [x] = w.setCell ⟨g, xs.length, none⟩ x := rfl
    rw [hset] at hr
    refine ⟨_, _, hr, ⟨g, cap, by simp, g1, by simpa [World.setCell] using g2, by simpa using hroom, fun j u hu => ?_, fun j hj => ?_⟩, ?_⟩
    · by_cases e : j = xs.length
      · subst e
        have hu' : u = x := by simpa using hu.symm
        subst hu'
        obtain ⟨y, hy⟩ := Option.isSome_iff_exists.1 (g5 xs.length (by omega)).1
        exact World.cell?_setCell_same w _ u hy
      · have hj : j < xs.length := by
          have := (List.getElem?_eq_some_iff.1 hu).1
          simp at this; omega
        rw [World.cell?_setCell_other w _ _ x (fun e' => e (by injection e' with _ e2 _; exact e2.symm))]
        exact g4 j u (by rw [← hu, List.getElem?_append_left hj])
    · obtain ⟨hs, hf⟩ := g5 j hj
      refine ⟨?_, by simpa using hf⟩
      obtain ⟨y, hy⟩ := Option.isSome_iff_exists.1 hs
      obtain ⟨y', hy'⟩ := cell?_setCell_some (p := ⟨g, xs.length, none⟩) (x := x) hy
      rw [hy']; rfl
    · exact ⟨rfl, rfl, rfl, by simp [World.setCell], fun k hk hne => Below.heap_setCell w _ x k (fun e => hne (by rw [e]; rfl))⟩
  · have holds : ∀ j u, xs[j]? = some u → w.cell? ((⟨g, 0, none⟩ : Addr).add j) = some u := fun j u hu => by
      have hadd : (⟨g, 0, none⟩ : Addr).add j = ⟨g, j, none⟩ := by unfold Addr.add; split <;> simp_all
      rw [hadd]; exact g4 j u hu
    obtain ⟨v', w', hr, ho, hg⟩ := run_append_arg_grows (P := Tryz.prog) w t ty e i z 1 bytes ht hi hz hsize hby hzs (by omega) ⟨g, 0, none⟩ xs.length cap xs (by omega) holds ad 1 c [x] rfl hnews (by omega) h63 hbytes
    refine ⟨v', w', hr, ?_, ⟨hg.os, hg.tape, hg.output, hg.size, fun k hk _ => hg.block k hk (by simp)⟩⟩
    have := OwnB.of_own ho (by omega)
    obtain ⟨g', cap', e', a1, a2, a3, a4, a5⟩ := this
    exact ⟨g', cap', e', by omega, a2, a3, a4, a5⟩
theorem wpList_append_B {ops : Array Oper} {rest : List Oper} {o : Oper} {a : Act} {w : World} {Q : Exit → Act → World → Prop} (hgd : o.guard = none) (s x : Operand) (t : TypeId)
    (ho : o.op = .call { callee := .builtin .append, args := #[s, x], argTypes := #[t, t] }) (base : Nat) (e : TypeId) (i : TypeInfo) (z : Value) (bytes : Nat) (ht : Tryz.prog.underlying t = some (.slice e)) (hi : Tryz.prog.info? e = some i) (hz : i.zero = some z)
    (hsize : i.size = 1) (hby : i.bytes = bytes) (hzs : z.cells.size = 1) (v : Value) (xs : List Value) (hs : a.eval s = v) (h : OwnB w base v xs) (ad : Addr) (c : Nat) (y : Value) (hx : a.eval x = .slice (some ad) 1 c) (hy : w.cell? ad = some y) (h1 : y.oneCell' = true)
    (h63 : xs.length + 1 ≤ maxLen) (hbytes : (xs.length + 1) * bytes ≤ 140737488355328) (hbase : base ≤ w.heap.size)
    (hK : ∀ v' w', OwnB w' base v' (xs ++ [y]) → w.grownBy w' v.ownBlock → wpList Tryz.prog ops Q rest (a.put o.dst v') w') : wpList Tryz.prog ops Q (o :: rest) a w := by
  refine wpList_plain hgd fun K hK' => ?_
  obtain ⟨v', w', hrun, h2, h3⟩ := run_append_B w base t o.type e i z bytes ht hi hz hsize hby hzs v xs h ad c y hy h1 h63 hbytes hbase
  unfold Oper.wp
  simp [execOp, ho, resolve, invoke, builtin, hs, hx, hrun, Result.andThen]
  exact hK' _ _ (hK v' w' h2 h3)
end Go.Proofs.YtebkblmejkkhfaaGreatDoor

namespace Go.Proofs.YtebkblmejkkhfaaGreatDoor
open Go.RowKit
set_option linter.unusedVariables false

/-- The slice v holds the bytes of s, in a block below B. -/
def Dat (w : World) (B : Nat) (v : Value) (s : ByteArray) : Prop := ∃ g cap, v = .slice (some ⟨g, 0, none⟩) s.size cap ∧ g < B ∧ s.size ≤ cap ∧ Lib.Bytes w g 0 s
theorem Dat.below {w w' : World} {B : Nat} {v : Value} {s : ByteArray} (h : Dat w B v s) (hb : Below B w w') : Dat w' B v s := by
  obtain ⟨g, cap, rfl, h1, h2, h3⟩ := h
  refine ⟨g, cap, rfl, h1, h2, ?_⟩
  intro i hi
  have := h3 i hi
  rw [World.cell?_of_block (hb.block g h1)]
  exact this

set_option maxHeartbeats 1000000 in
set_option maxRecDepth 1000000 in
theorem frameCut_any (v : Value) (s : ByteArray) (p B : Nat) (w : World) (hB : Dat w B v s) (hp : p ≤ s.size) (hs : s.size ≤ 20000) :
    Calls Tryz.prog 201 #[v, .int .i64 p] w fun e w' => e = .returned (.string (s.extract p (min (p + 1006) s.size))) ∧ w' = w := by
  obtain ⟨g, cap, rfl, h1, h2, h3⟩ := hB
  have hc : (convert 22 9 (.slice (some ⟨g, p, none⟩) ((min ((p : Int) + 1006) (s.size : Int)).toNat - p) ((min ((p : Int) + 1006) (s.size : Int)).toNat - p))).run Tryz.prog w = .ok (.string (s.extract p (min (p + 1006) s.size))) w := by
    have hm : (min ((p : Int) + 1006) (s.size : Int)).toNat = min (p + 1006) s.size := by omega
    rw [hm]
    have h := Lib.run_convert_window (P := Tryz.prog) w 22 5 9 Tryz.underlying22 Tryz.underlying5 Tryz.underlying9 g 0 s h3 p (min (p + 1006) s.size - p) (min (p + 1006) s.size - p) (by omega)
    rw [Nat.zero_add, show p + (min (p + 1006) s.size - p) = min (p + 1006) s.size by omega] at h
    exact h
  have hc0 : (convert 22 9 (.slice (some ⟨g, 0, none⟩) 0 0)).run Tryz.prog w = .ok (.string ⟨#[]⟩) w := by
    have h := Lib.run_convert_window (P := Tryz.prog) w 22 5 9 Tryz.underlying22 Tryz.underlying5 Tryz.underlying9 g 0 s h3 0 0 0 (by omega)
    rw [show s.extract 0 (0 + 0) = ⟨#[]⟩ from ByteArray.ext (by simp)] at h
    exact h
  go_enter Tryz.func201, Tryz.ntmps201
  go_wp2
  · have h : (min ((p : Int) + 1006) (s.size : Int)).toNat = p := by assumption
    go_ret
    refine ⟨retS ?_, rfl⟩
    rw [show min (p + 1006) s.size = p by omega]
    exact (ByteArray.ext (by simp)).symm
  · go_ret
    exact ⟨rfl, rfl⟩
end Go.Proofs.YtebkblmejkkhfaaGreatDoor
