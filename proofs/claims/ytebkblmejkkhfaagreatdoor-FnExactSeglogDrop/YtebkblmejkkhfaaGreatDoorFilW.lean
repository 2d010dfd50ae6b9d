/- Blocks of memory that are known whole, rows of words, and how they are kept. Contracts: spec.NameRight and impl.NameRight both answer nameB of their string. Files as the program holds them in memory: slices of structs of three cells, and an argument that is one. -/
import Derived.Test.YtebkblmejkkhfaaGreatDoorDecW
import Derived.Deep.QuietTactic
import Derived.BigQuiet
import Derived.IntWalk
import Derived.Deep.Draws
import Derived.Laws.OwnMore
import Derived.Laws.Rows
import Derived.Laws.Tables
import Derived.WalkKit
import Derived.Below
import Derived.Lib.Hide
import Derived.Deep.Slices
import Derived.Deep.Fields
import Derived.ChangeSame
import Derived.Lib.SmallJoins
import Derived.WideShapes
namespace Go.Proofs.YtebkblmejkkhfaaGreatDoor
open Go.RowKit
set_option linter.unusedVariables false

/-- Block g holds just these cells, none of them frozen. -/
def Blk (w : World) (g : Nat) (t : TypeId) (cs : List Value) : Prop := w.heap[g]? = some (.cells cs.toArray t (0, 0))
section
variable {w w' : World} {g : Nat} {t : TypeId} {cs : List Value}
theorem Blk.lt (h : Blk w g t cs) : g < w.heap.size := by
  rcases Nat.lt_or_ge g w.heap.size with hl | hl
  · exact hl
  · unfold Blk at h; rw [Array.getElem?_eq_none hl] at h; cases h
theorem Blk.cell (h : Blk w g t cs) {i : Nat} {v : Value} (hi : cs[i]? = some v) : w.cell? ⟨g, i, none⟩ = some v := by
  rw [cell_of_row w g i _ t (0, 0) h]; simpa using hi
theorem Blk.froz (h : Blk w g t cs) (i : Nat) : w.frozen? ⟨g, i, none⟩ = false := by
  unfold Blk at h; simp [World.frozen?, h]
theorem Blk.heap (h : Blk w g t cs) : w.heap[g]? = some (.cells cs.toArray t (0, 0)) := h
theorem Blk.drewN (h : Blk w g t cs) (n : Nat) : Blk (w.drewN n) g t cs := h
theorem Blk.drew (h : Blk w g t cs) : Blk w.drew g t cs := h
theorem Blk.alloc (h : Blk w g t cs) (o : Obj) : Blk (w.alloc o) g t cs := (Below.heap_alloc w o g h.lt).trans h
theorem Blk.fresh (w : World) (t : TypeId) (cs : List Value) : Blk (w.alloc (.cells cs.toArray t)) w.heap.size t cs := by
  unfold Blk; show (w.heap.push _)[w.heap.size]? = _; simp
theorem Blk.put (h : Blk w g t cs) (i : Nat) (u : Value) : Blk (w.setCell ⟨g, i, none⟩ u) g t (cs.set i u) := by
  unfold Blk at h ⊢; simp [World.setCell, Array.getElem?_modify, h]
theorem Blk.far (h : Blk w g t cs) {p : Addr} (hp : g ≠ p.block) (u : Value) : Blk (w.setCell p u) g t cs := (Below.heap_setCell w p u g hp).trans h
theorem Blk.below {B : Nat} (h : Blk w g t cs) (hb : Below B w w') (hg : g < B) : Blk w' g t cs := (hb.block g hg).trans h
theorem Blk.grown {row : Option Nat} (h : Blk w g t cs) (hb : w.grownBy w' row) (hg : some g ≠ row) : Blk w' g t cs := (hb.block g h.lt hg).trans h
theorem Blk.setRow (h : Blk w g t cs) (ds : List Value) : Blk (w.setRow g ds.toArray) g t ds := setRow_heap w g _ _ t (0, 0) h
theorem Blk.row_far (h : Blk w g t cs) {k : Nat} (hk : g ≠ k) (ds : Array Value) : Blk (w.setRow k ds) g t cs := (setRow_other w k g ds hk).trans h
end
theorem below_drewN {B : Nat} {a w : World} (h : Below B a w) (n : Nat) : Below B a (w.drewN n) := ⟨h.os, h.tape, h.output, h.size, h.block⟩
theorem below_drew {B : Nat} {a w : World} (h : Below B a w) : Below B a w.drew := ⟨h.os, h.tape, h.output, h.size, h.block⟩
theorem quiet_eq {P : Program} {f : FuncId} {args : Array Value} {w : World} {n : Nat} {v : Value}
    (h : Calls P f args (w.drewN n) fun e w' => e = .returned v ∧ w.drewN n = w') : Calls P f args (w.drewN n) fun e w'' => e = .returned v ∧ ∃ m, w'' = w.drewN m :=
  h.mono fun _ _ ⟨he, hm⟩ => ⟨he, n, hm.symm⟩

/-- A whole value stored into the block that was made last. -/
theorem wpList_store_new {P : Program} {ops : Array Oper} {rest : List Oper} {o : Oper} {a : Act} {w : World} {Q : Exit → Act → World → Prop} (hgd : o.guard = none) (ty : TypeId) (x y : Operand) (ho : o.op = .store ty x y)
    (old : Array Value) (t : TypeId) (cells : List Value) (hx : a.eval x = .pointer (some ⟨w.heap.size, 0, none⟩)) (hy : a.eval y = .agg cells.toArray)
    (hi : (P.info? ty).map (·.size) = some cells.toArray.size) (hold : old.size = cells.toArray.size) (h1 : cells.toArray.all (·.oneCell') = true)
    (h : ∀ w2, Blk w2 w.heap.size t cells → Below w.heap.size w w2 → wpList P ops Q rest (a.put o.dst undef) w2) : wpList P ops Q (o :: rest) a (w.alloc (.cells old t)) := by
  have hn : Blk (w.alloc (.cells old t)) w.heap.size t old.toList := by
    have := Blk.fresh w t old.toList
    simpa using this
  refine wpList_store_row hgd ty x y ho w.heap.size cells.toArray hx hy t old (by simpa using hn.heap) hi hold h1 (h _ (hn.setRow cells) ?_)
  exact below_setRow ((Below.refl _ _).alloc (Nat.le_refl _) _) (Nat.le_refl _) _

/-- n cells, each an integer of one kind. -/
def ints (k : IntKind) (n : Nat) (f : Nat → Int) : List Value := (List.range n).map fun i => Value.int k (f i)
theorem ints_len (k : IntKind) (n : Nat) (f : Nat → Int) : (ints k n f).length = n := by simp [ints]
theorem ints_get {k : IntKind} {n : Nat} {f : Nat → Int} {i : Nat} (h : i < n) : (ints k n f)[i]? = some (.int k (f i)) := by simp [ints, h]
theorem ints_set {k : IntKind} {n : Nat} {f : Nat → Int} {i : Nat} {v : Int} (h : i < n) : (ints k n f).set i (.int k v) = ints k n (fun j => if j = i then v else f j) := by
  apply List.ext_getElem?
  intro j
  unfold ints
  rw [List.getElem?_set]
  by_cases hj : i = j
  · subst hj; simp [h]
  · simp [hj]
    by_cases hn : j < n
    · simp [hn, Ne.symm hj]
    · simp [hn]
theorem ints_congr {k : IntKind} {n : Nat} {f g : Nat → Int} (h : ∀ i, i < n → f i = g i) : ints k n f = ints k n g := by
  unfold ints; apply List.map_congr_left; intro i hi; rw [h i (by simpa using hi)]
theorem ints_one (k : IntKind) (n : Nat) (f : Nat → Int) : (ints k n f).toArray.all (·.oneCell') = true := by
  simp [ints, Value.oneCell']
end Go.Proofs.YtebkblmejkkhfaaGreatDoor

namespace Go.Proofs.YtebkblmejkkhfaaGreatDoor
open Go.RowKit
set_option linter.unusedVariables false

def letB (n : Int) : Bool := decide (97 ≤ n ∧ n ≤ 122)
def nameByteB (n : Int) : Bool := decide ((97 ≤ n ∧ n ≤ 122) ∨ (48 ≤ n ∧ n ≤ 57) ∨ n = 95)
def okAt (k : Nat) (n : Int) : Bool := decide ((97 ≤ n ∧ n ≤ 122) ∨ (0 < k ∧ ((48 ≤ n ∧ n ≤ 57) ∨ n = 95)))
def OkUpto (s : ByteArray) (m : Nat) : Prop := ∀ k (h : k < s.size), k < m → okAt k (s[k].toNat : Int) = true
noncomputable def nameB (s : ByteArray) : Bool := @decide (1 ≤ s.size ∧ s.size ≤ 20 ∧ OkUpto s s.size) (Classical.propDecidable _)

theorem okAt_cases (k : Nat) (n : Int) : okAt k n = true ∨ okAt k n = false := by cases okAt k n <;> simp
theorem okUpto_zero (s : ByteArray) : OkUpto s 0 := fun k _ h => absurd h (Nat.not_lt_zero k)
theorem okUpto_succ {s : ByteArray} {m : Nat} (hm : m < s.size) (h : OkUpto s m) (hk : okAt m (s[m].toNat : Int) = true) : OkUpto s (m + 1) := by
  intro k hks hkm
  by_cases e : k = m
  · subst e; exact hk
  · exact h k hks (by omega)
theorem nameB_true {s : ByteArray} (h1 : 1 ≤ s.size) (h2 : s.size ≤ 20) (h : OkUpto s s.size) : nameB s = true := by
  unfold nameB; exact @decide_eq_true _ (Classical.propDecidable _) ⟨h1, h2, h⟩
theorem nameB_false {s : ByteArray} (h : ¬ (1 ≤ s.size ∧ s.size ≤ 20 ∧ OkUpto s s.size)) : nameB s = false := by
  unfold nameB; exact @decide_eq_false _ (Classical.propDecidable _) h
theorem nameB_false_at {s : ByteArray} {m : Nat} (hm : m < s.size) (hk : okAt m (s[m].toNat : Int) = false) : nameB s = false :=
  nameB_false fun h => by have := h.2.2 m hm hm; rw [hk] at this; cases this

set_option maxHeartbeats 400000 in
theorem isLetter_any (n : Int) (w : World) :
    Calls Tryz.prog 159 #[.int .u8 n] w fun e w' => e = .returned (.bool (letB n)) ∧ w = w' := by
  by_cases h1 : 97 ≤ n <;> by_cases h2 : n ≤ 122
  all_goals
    go_enter Tryz.func159, Tryz.ntmps159
    go_wp2
    go_ret
    exact ⟨retB (by simp [letB] <;> omega), rfl⟩

set_option maxHeartbeats 400000 in
theorem isNameByte_any (n : Int) (w : World) :
    Calls Tryz.prog 160 #[.int .u8 n] w fun e w' => e = .returned (.bool (nameByteB n)) ∧ w = w' := by
  by_cases h1 : 97 ≤ n <;> by_cases h2 : n ≤ 122 <;> by_cases h3 : 48 ≤ n <;> by_cases h4 : n ≤ 57 <;> by_cases h5 : n = 95 <;> try omega
  all_goals
    go_enter Tryz.func160, Tryz.ntmps160
    go_wp2
    go_ret
    exact ⟨retB (by simp [nameByteB] <;> omega), rfl⟩

theorem boolWays (p : Prop) [Decidable p] : (p ∧ decide p = true) ∨ (¬ p ∧ decide p = false) := by by_cases h : p <;> simp [h]
theorem byteWays (n : Int) : n < 48 ∨ (48 ≤ n ∧ n ≤ 57) ∨ (58 ≤ n ∧ n ≤ 94) ∨ n = 95 ∨ n = 96 ∨ (97 ≤ n ∧ n ≤ 122) ∨ 122 < n := by omega

set_option maxHeartbeats 1000000 in
theorem specNameRight_any (s : ByteArray) (w : World) (hs : s.size ≤ maxLen) :
    Calls Tryz.prog 90 #[.string s] w fun e w' => e = .returned (.bool (nameB s)) ∧ w = w' := by
  unfold maxLen at hs
  by_cases h1 : 1 ≤ s.size
  · by_cases h2 : s.size ≤ 20
    · go_enter Tryz.func90, Tryz.ntmps90
      go_wp2
      go_loop [3] (fun i => ∃ k : Nat, k ≤ s.size ∧ OkUpto s k ∧ i = .int .i64 k) (fun i => s.size - (intOf i).toNat)
      case atStart => exact ⟨0, Nat.zero_le _, okUpto_zero s, rfl⟩
      case round =>
        obtain ⟨k, hk, hok, rfl⟩ := hrel
        by_cases hlt : k < s.size
        · have HN := Lib.hid (fun h => okUpto_succ hlt hok h)
          have HF := Lib.hid (fun h => nameB_false_at hlt h)
          clear hok
          obtain ⟨n, hn⟩ : ∃ n : Int, n = (s[k].toNat : Int) := ⟨_, rfl⟩
          rw [← hn] at HN HF
          have HE := Lib.hid hn
          clear hn
          rcases Nat.eq_zero_or_pos k with hk0 | hk0
          · subst hk0
            rcases byteWays n with h | h | h | h | h | h | h
            all_goals
              rw [HE.out] at h
              have q1 := boolWays ((s[0].toNat : Int) ≤ 122)
              have q2 := boolWays ((s[0].toNat : Int) ≤ 57)
              have q3 : ((s[0].toNat : Int) != 95) = true ∨ ((s[0].toNat : Int) != 95) = false := by cases ((s[0].toNat : Int) != 95) <;> simp
              rcases q1 with ⟨r1, q1⟩ | ⟨r1, q1⟩ <;> rcases q2 with ⟨r2, q2⟩ | ⟨r2, q2⟩ <;> try omega
              all_goals
                rcases q3 with q3 | q3 <;> (try (simp only [bne_iff_ne, bne_eq_false_iff_eq, ne_eq] at q3; omega))
                go_wp2
                first
                | (go_round
                   case rel => exact ⟨1, by omega, HN.out (by rw [HE.out]; simp [okAt]; omega), by go_num⟩
                   case measure => simp [intOf]; omega)
                | (go_ret
                   exact ⟨(congrArg _ (congrArg _ (HF.out (by rw [HE.out]; simp [okAt]; omega)))).symm, rfl⟩)
          · have q0 : ((k : Int) == 0) = false := by simp; omega
            rcases byteWays n with h | h | h | h | h | h | h
            all_goals
              rw [HE.out] at h
              have q1 := boolWays ((s[k].toNat : Int) ≤ 122)
              have q2 := boolWays ((s[k].toNat : Int) ≤ 57)
              have q3 : ((s[k].toNat : Int) != 95) = true ∨ ((s[k].toNat : Int) != 95) = false := by cases ((s[k].toNat : Int) != 95) <;> simp
              rcases q1 with ⟨r1, q1⟩ | ⟨r1, q1⟩ <;> rcases q2 with ⟨r2, q2⟩ | ⟨r2, q2⟩ <;> try omega
              all_goals
                rcases q3 with q3 | q3 <;> (try (simp only [bne_iff_ne, bne_eq_false_iff_eq, ne_eq] at q3; omega))
                go_wp2
                first
                | (go_round
                   case rel => exact ⟨k + 1, by omega, HN.out (by rw [HE.out]; simp [okAt]; omega), by go_num⟩
                   case measure => simp [intOf]; omega)
                | (go_ret
                   exact ⟨(congrArg _ (congrArg _ (HF.out (by rw [HE.out]; simp [okAt]; omega)))).symm, rfl⟩)
        · go_wp2
          go_ret
          exact ⟨(congrArg _ (congrArg _ (nameB_true h1 h2 ((show k = s.size by omega) ▸ hok)))).symm, rfl⟩
    · go_enter Tryz.func90, Tryz.ntmps90
      go_wp2
      go_ret
      rw [nameB_false (by omega)]
      exact ⟨rfl, rfl⟩
  · go_enter Tryz.func90, Tryz.ntmps90
    go_wp2
    go_ret
    rw [nameB_false (by omega)]
    exact ⟨rfl, rfl⟩

def NbUpto (s : ByteArray) (m : Nat) : Prop := ∀ k (h : k < s.size), k < m → nameByteB (s[k].toNat : Int) = true
theorem nbUpto_zero (s : ByteArray) : NbUpto s 0 := fun k _ h => absurd h (Nat.not_lt_zero k)
theorem nbUpto_succ {s : ByteArray} {m : Nat} (hm : m < s.size) (h : NbUpto s m) (hk : nameByteB (s[m].toNat : Int) = true) : NbUpto s (m + 1) := by
  intro k hks hkm
  by_cases e : k = m
  · subst e; exact hk
  · exact h k hks (by omega)
theorem okUpto_of_nb {s : ByteArray} {m : Nat} (h1 : 0 < s.size) (h0 : letB (s[0].toNat : Int) = true) (h : NbUpto s m) : OkUpto s m := by
  intro k hks hkm
  have hk := h k hks hkm
  rcases Nat.eq_zero_or_pos k with rfl | hp
  · simp [letB] at h0; simp [okAt]; omega
  · simp [nameByteB] at hk; simp [okAt]; omega
theorem okAt_of_let {s : ByteArray} (h1 : 0 < s.size) (h0 : letB (s[0].toNat : Int) = false) : nameB s = false :=
  nameB_false_at h1 (by simp [letB] at h0; simp [okAt]; omega)
theorem okAt_of_nb {s : ByteArray} {k : Nat} (h1 : k < s.size) (h0 : nameByteB (s[k].toNat : Int) = false) : nameB s = false :=
  nameB_false_at h1 (by simp [nameByteB] at h0; simp [okAt]; omega)

set_option maxHeartbeats 1000000 in
theorem implNameRight_any (s : ByteArray) (w : World) (hs : s.size ≤ maxLen) :
    Calls Tryz.prog 131 #[.string s] w fun e w' => e = .returned (.bool (nameB s)) ∧ w = w' := by
  unfold maxLen at hs
  by_cases h1 : 1 ≤ s.size
  · have h1' : 0 < s.size := h1
    by_cases h2 : s.size ≤ 20
    · rcases Bool.eq_false_or_eq_true (letB (s[0].toNat : Int)) with hl | hl
      · go_enter Tryz.func131, Tryz.ntmps131
        go_wp2_with (go_at_call 159; refine (isLetter_any _ _).mono ?_; rintro e w' ⟨rfl, rfl⟩)
        have HL := Lib.hid hl
        clear hl
        go_loop [20] (fun i => ∃ k : Nat, k ≤ s.size ∧ NbUpto s k ∧ i = .int .i64 k) (fun i => s.size - (intOf i).toNat)
        case atStart => exact ⟨0, Nat.zero_le _, nbUpto_zero s, rfl⟩
        case round =>
          obtain ⟨k, hk, hok, rfl⟩ := hrel
          by_cases hlt : k < s.size
          · rcases Bool.eq_false_or_eq_true (nameByteB (s[k].toNat : Int)) with hb | hb
            · have HN := Lib.hid (nbUpto_succ hlt hok hb)
              clear hok
              go_wp2_with (go_at_call 160; refine (isNameByte_any _ _).mono ?_; rintro e w' ⟨rfl, rfl⟩)
              go_round
              case rel => exact ⟨k + 1, by omega, HN.out, by go_num⟩
              case measure => simp [intOf]; omega
            · clear hok
              go_wp2_with (go_at_call 160; refine (isNameByte_any _ _).mono ?_; rintro e w' ⟨rfl, rfl⟩)
              go_ret
              exact ⟨(congrArg _ (congrArg _ (okAt_of_nb hlt hb))).symm, rfl⟩
          · have HO := Lib.hid hok
            clear hok
            go_wp2
            go_ret
            exact ⟨(congrArg _ (congrArg _ (nameB_true h1 h2 (okUpto_of_nb h1' HL.out ((show k = s.size by omega) ▸ HO.out))))).symm, rfl⟩
      · go_enter Tryz.func131, Tryz.ntmps131
        go_wp2_with (go_at_call 159; refine (isLetter_any _ _).mono ?_; rintro e w' ⟨rfl, rfl⟩)
        go_ret
        exact ⟨(congrArg _ (congrArg _ (okAt_of_let h1' hl))).symm, rfl⟩
    · go_enter Tryz.func131, Tryz.ntmps131
      go_wp2
      go_ret
      rw [nameB_false (by omega)]
      exact ⟨rfl, rfl⟩
  · go_enter Tryz.func131, Tryz.ntmps131
    go_wp2
    go_ret
    rw [nameB_false (by omega)]
    exact ⟨rfl, rfl⟩

end Go.Proofs.YtebkblmejkkhfaaGreatDoor

namespace Go.Proofs.YtebkblmejkkhfaaGreatDoor
open Go.RowKit Go.ChangeShapes Go.WideShapes Go.Deep
set_option linter.unusedVariables false

/-- A file. -/
structure Fil where
  name : ByteArray
  data : ByteArray
  sync : Int
  deriving Inhabited
namespace Fil
/-- The cells of a file. -/
def cells (f : Fil) : List Value := [.string f.name, .string f.data, .int .i64 f.sync]
/-- The value of a file. -/
def val (f : Fil) : Value := .agg #[.string f.name, .string f.data, .int .i64 f.sync]
/-- What every file keeps to: its strings are no longer than a machine allows, its number is one of 64 bits. -/
def fits (f : Fil) : Prop := f.name.size ≤ maxLen ∧ f.data.size ≤ maxLen ∧ -9223372036854775808 ≤ f.sync ∧ f.sync ≤ 9223372036854775807
end Fil
/-- The files of a slice, below block B. -/
def Fls (w : World) (B : Nat) (A : Option Addr) (L : List Fil) : Prop :=
  L.length ≤ maxLen ∧ ∀ i (h : i < L.length), ∃ a, A = some a ∧ a.block < B ∧ w.cell? (a.add (i * 3)) = some (.string L[i].name) ∧ w.cell? (a.add (i * 3 + 1)) = some (.string L[i].data) ∧ w.cell? (a.add (i * 3 + 2)) = some (.int .i64 L[i].sync) ∧ L[i].fits
theorem add_blk (a : Addr) (n : Nat) : (a.add n).block = a.block := by unfold Addr.add; split <;> rfl
theorem Fls.of_block {w w' : World} {B : Nat} {A : Option Addr} {L : List Fil} (h : Fls w B A L) (hb : ∀ k, k < B → w'.heap[k]? = w.heap[k]?) : Fls w' B A L :=
  ⟨h.1, fun i hi => by
    obtain ⟨a, e, h1, h2, h3, h4, h5⟩ := h.2 i hi
    refine ⟨a, e, h1, ?_, ?_, ?_, h5⟩
    · rw [World.cell?_of_block (a := a.add _) (hb _ (by rw [add_blk]; exact h1))]; exact h2
    · rw [World.cell?_of_block (a := a.add _) (hb _ (by rw [add_blk]; exact h1))]; exact h3
    · rw [World.cell?_of_block (a := a.add _) (hb _ (by rw [add_blk]; exact h1))]; exact h4⟩
theorem Fls.mono {w : World} {B B' : Nat} {A : Option Addr} {L : List Fil} (h : Fls w B A L) (hb : B ≤ B') : Fls w B' A L :=
  ⟨h.1, fun i hi => by
    obtain ⟨a, e, h1, h2⟩ := h.2 i hi
    exact ⟨a, e, by omega, h2⟩⟩
theorem Fls.below {w w' : World} {B C : Nat} {A : Option Addr} {L : List Fil} (h : Fls w B A L) (hb : Below C w w') (hC : B ≤ C) : Fls w' B A L := h.of_block fun k hk => hb.block k (by omega)

theorem cells3 : Tryz.prog.cellsOf 156 = 3 := by kernel_rfl
theorem cells1 : Tryz.prog.cellsOf 56 = 1 := by kernel_rfl
theorem cellsSl : Tryz.prog.cellsOf 54 = 1 := by kernel_rfl
theorem cellsStr : Tryz.prog.cellsOf 9 = 1 := by kernel_rfl
theorem cellsI64 : Tryz.prog.cellsOf 2 = 1 := by kernel_rfl
theorem ofNat_add (a : Addr) (i j : Nat) : (a.add i).add j = a.add (i + j) := Go.Deep.add_add a i j
theorem add_far (a : Addr) (n m : Nat) : (⟨(a.add n).block, (a.add n).off + (m + 1), none⟩ : Addr) = a.add (n + (m + 1)) := by
  rw [← ofNat_add]; rfl
/-- A file of a slice, its cells as a walk asks for them. -/
theorem Fls.at {w : World} {B : Nat} {A : Option Addr} {L : List Fil} (h : Fls w B A L) (i : Nat) (hi : i < L.length) :
    ∃ a, A = some a ∧ a.block < B ∧ w.cell? (a.add (i * 3)) = some (.string L[i].name) ∧ w.cell? ⟨(a.add (i * 3)).block, (a.add (i * 3)).off + 1, none⟩ = some (.string L[i].data) ∧ w.cell? ⟨(a.add (i * 3)).block, (a.add (i * 3)).off + 2, none⟩ = some (.int .i64 L[i].sync) ∧ L[i].fits := by
  obtain ⟨a, e, h1, h2, h3, h4, h5⟩ := h.2 i hi
  exact ⟨a, e, h1, h2, by rw [add_far]; exact h3, by rw [add_far]; exact h4, h5⟩

set_option maxRecDepth 1000000 in
/-- What is known of a file system that came in. -/
theorem fs_arg {H : Type} {enc : TypeId × Value → H} {W : World} {r : Reach} {b0 : Nat} {v : Value} {d : DataW H} {p : List MemPlace} (hval : Value.okWide Tryz.prog W r b0 56 v) (h : DataW.Trod enc Tryz.prog W 0 (fun _ => true) true 56 v d p) :
    ∃ A L c, v = .agg #[.slice A L.length c] ∧ Fls W W.heap.size A L := by
  obtain ⟨cs, rfl, hsz⟩ := okWide_struct Tryz.underlying56 hval
  rw [cells1] at hsz
  obtain ⟨l⟩ := cs
  match l, hsz with
  | [c0], _ =>
    obtain ⟨fuel, hf⟩ := h
    obtain ⟨y0, n, hx, _, h0⟩ := trod_struct1 Tryz.underlying56 hf
    have h1 : DataW.trod enc Tryz.prog W 0 (fun _ => true) true n 54 [c0] = some y0 := by simpa [Value.cells, cellsSl] using h0
    rcases open_slice Tryz.underlying54 h1 with ⟨hc, _⟩ | ⟨a, len, cap, m, n', D, Pl, hc, _, hl, hm, hmm, _, hi⟩
    · injection hc with hc _
      subst hc
      exact ⟨none, [], 0, rfl, by simp [maxLen], fun i h => absurd h (by simp)⟩
    · injection hc with hc _
      subst hc
      have hmm' : m = cap := by simpa using hmm
      subst hmm'
      have key : ∀ i, i < len → ∃ f : Fil, W.cell? (a.add (i * 3)) = some (.string f.name) ∧ W.cell? (a.add (i * 3 + 1)) = some (.string f.data) ∧ W.cell? (a.add (i * 3 + 2)) = some (.int .i64 f.sync) ∧ f.fits := by
        intro i hil
        obtain ⟨cs', hcc, ht⟩ := hi i (by omega)
        rw [cells3] at hcc
        obtain ⟨_, hcl, hat⟩ := World.cells?_some hcc
        obtain ⟨ys, n2, _, _, _, hyl, hfs⟩ := DataW.trod_struct Tryz.underlying156 ht
        match cs', hcl with
        | [u0, u1, u2], _ =>
          match ys, hyl with
          | [z0, z1, z2], _ =>
            have g0 := hfs 0 _ rfl
            have g1 := hfs 1 _ rfl
            have g2 := hfs 2 _ rfl
            simp only [List.getElem?_cons_zero, List.getElem?_cons_succ] at g0 g1 g2
            obtain ⟨s0, e0, _, q0⟩ := DataW.trod_string Tryz.underlying9 g0
            obtain ⟨s1, e1, _, q1⟩ := DataW.trod_string Tryz.underlying9 g1
            obtain ⟨k2, e2, _, q2⟩ := DataW.trod_int Tryz.underlying2 g2
            injection e0 with e0 _; injection e1 with e1 _; injection e2 with e2 _
            subst e0 e1 e2
            have a0 := hat 0 (by omega)
            have a1 := hat 1 (by omega)
            have a2 := hat 2 (by omega)
            rw [ofNat_add] at a0 a1 a2
            have q := wf_i64 q2
            exact ⟨⟨s0, s1, k2⟩, a0, a1, a2, q0, q1, q.1, q.2⟩
      let F : Nat → Fil := fun i => if h : i < len then (key i h).choose else default
      have hF : ∀ i, i < len → W.cell? (a.add (i * 3)) = some (.string (F i).name) ∧ W.cell? (a.add (i * 3 + 1)) = some (.string (F i).data) ∧ W.cell? (a.add (i * 3 + 2)) = some (.int .i64 (F i).sync) ∧ (F i).fits := by
        intro i hil
        simp only [F, hil, dif_pos]
        exact (key i hil).choose_spec
      refine ⟨some a, (List.range len).map F, m, by simp, by simp; omega, fun i hi => ?_⟩
      have hil : i < len := by simpa using hi
      obtain ⟨c0, c1, c2, c3⟩ := hF i hil
      have hbl := World.block_lt_of_cell? W _ c0
      rw [add_blk] at hbl
      exact ⟨a, rfl, hbl, by simpa using c0, by simpa using c1, by simpa using c2, by simpa using c3⟩
end Go.Proofs.YtebkblmejkkhfaaGreatDoor
