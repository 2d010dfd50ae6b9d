/- Rows of strings: what the exact laws do with them. Slices of strings as arguments of the exact laws. Topics as the program holds them in memory: groups are structs of two cells, read out of slices. Strings and groups appended to rows of the call's own, out of slices that are read. -/
import Derived.Test.YtjnbhppnchmeoaaDoorAuQW
import Derived.Test.YtjnbhppnchmeoaaDoorRwkW
import Derived.SliceStrings
import Derived.Test.YtjnbhppnchmeoaaDoorNameW
import Derived.Deep.Slices
import Derived.Deep.Fields
import Derived.ChangeSame
import Derived.Lib.SmallJoins
import Derived.WideShapes
import Derived.Laws.AppendOwnNone
namespace Go.Proofs.YtjnbhppnchmeoaaDoor
open Go.RowKit
set_option linter.unusedVariables false

/-- The strings of a slice, below block B. -/
def Strs (w : World) (B : Nat) (A : Option Addr) (L : List ByteArray) : Prop :=
  L.length ≤ maxLen ∧ ∀ i (h : i < L.length), ∃ a, A = some a ∧ a.block < B ∧ w.cell? (a.add i) = some (.string L[i])
theorem Strs.below {w w' : World} {B C : Nat} {A : Option Addr} {L : List ByteArray} (h : Strs w B A L) (hb : Below C w w') (hC : B ≤ C) : Strs w' B A L :=
  ⟨h.1, fun i hi => by
    obtain ⟨a, e, h1, h2⟩ := h.2 i hi
    exact ⟨a, e, h1, by rw [World.cell?_of_block (a := a.add _) (hb.block _ (by rw [add_blk]; omega))]; exact h2⟩⟩
theorem Strs.mono {w : World} {B B' : Nat} {A : Option Addr} {L : List ByteArray} (h : Strs w B A L) (hb : B ≤ B') : Strs w B' A L :=
  ⟨h.1, fun i hi => by
    obtain ⟨a, e, h1, h2⟩ := h.2 i hi
    exact ⟨a, e, by omega, h2⟩⟩
/-- A row of strings of the call's own. -/
def OwnS (w : World) (base : Nat) (v : Value) (L : List ByteArray) : Prop := w.ownsRow base 9 1 v L.length (L.map Value.string)
theorem OwnS.strs {w : World} {base c n : Nat} {A : Option Addr} {L : List ByteArray} (h : OwnS w base (.slice A n c) L) : n = L.length ∧ Strs w w.heap.size A L := by
  rcases h.2 with ⟨hv, hz⟩ | ⟨g, cap, cur, hv, hb, hg, hl, hm, hs, ht⟩
  · have : L = [] := List.eq_nil_of_length_eq_zero hz
    subst this
    cases hv
    exact ⟨rfl, by simp [maxLen], fun i h => absurd h (by simp)⟩
  · cases hv
    refine ⟨rfl, by omega, fun i hi => ?_⟩
    have hc := World.ownsRow.cells h (g := g) rfl i (.string L[i]) (by simp [hi])
    exact ⟨⟨g, 0, none⟩, rfl, (Array.getElem?_eq_some_iff.1 hg).1, hc⟩

set_option maxHeartbeats 1000000 in
theorem eqStringS_same (A B : Option Addr) (L : List ByteArray) (c d : Nat) (w : World) (hA : Strs w w.heap.size A L) (hB : Strs w w.heap.size B L) :
    Calls Tryd.prog 98 #[.slice A L.length c, .slice B L.length d] w fun e w' => e = .returned (.bool true) ∧ Below w.heap.size w w' := by
  have hn := hA.1
  unfold maxLen at hn
  go_enter Tryd.func98, Tryd.ntmps98
  go_wp2
  go_loopw [5] (fun i wr => ∃ k : Nat, k ≤ L.length ∧ i = .int .i64 k ∧ Below w.heap.size w wr) (fun i _ => L.length - (intOf i).toNat)
  case atStart => exact ⟨0, by omega, rfl, Below.refl _ _⟩
  case round =>
    obtain ⟨k, hk, rfl, hb⟩ := hrel
    by_cases hlt : k < L.length
    · obtain ⟨a, rfl, hab, a0⟩ := (hA.below hb (Nat.le_refl _)).2 k hlt
      obtain ⟨b, rfl, hbb, b0⟩ := (hB.below hb (Nat.le_refl _)).2 k hlt
      have hlt' : (k : Int) < (L.length : Int) := by omega
      go_wp2
      go_quiet (fail)
      go_wp2
      exact ⟨⟨k + 1, by omega, by go_num, below_drewN hb _⟩, by simp [intOf]; omega⟩
    · obtain rfl : k = L.length := by omega
      go_wp2
      go_ret
      exact ⟨rfl, hb⟩

/-- The marks of n strings, from k on. -/
def markN (n k : Nat) : List ByteArray := (List.range n).map fun i => markS (k + i)
theorem markN_len (n k : Nat) : (markN n k).length = n := by simp [markN]
theorem markN_get {n k i : Nat} (h : i < n) : (markN n k)[i]'(by rw [markN_len]; exact h) = markS (k + i) := by simp [markN]

set_option maxHeartbeats 2000000 in
theorem markStringS_some (g n c base k : Nat) (L : List ByteArray) (w : World) (hR : w.ownsRow base 9 1 (.slice (some ⟨g, 0, none⟩) n c) n (L.map Value.string)) (h0 : 1 ≤ k) (h1 : k + n ≤ 4000000) :
    Calls Tryd.prog 73 #[.slice (some ⟨g, 0, none⟩) n c, .int .i64 k] w fun e w' => e = .returned (.int .i64 ((k + n : Nat) : Int)) ∧
      w'.ownsRow base 9 1 (.slice (some ⟨g, 0, none⟩) n c) n ((markN n k).map Value.string) ∧ w.grownBy w' (some g) := by
  have hl := hR.1
  rw [List.length_map] at hl
  have hl' : L.length = n := by omega
  clear hl
  go_enter Tryd.func73, Tryd.ntmps73
  go_wp2
  go_loopw [1, 5] (fun q i wr => ∃ j : Nat, j ≤ n ∧ i = .int .i64 j ∧ q = .int .i64 ((k + j : Nat) : Int) ∧ wr.ownsRow base 9 1 (.slice (some ⟨g, 0, none⟩) n c) n (((markN n k).take j ++ L.drop j).map Value.string) ∧ w.grownBy wr (some g)) (fun _ i _ => n - (intOf i).toNat)
  case atStart => exact ⟨0, by omega, rfl, rfl, by simpa using hR, World.grownBy.refl _ _⟩
  case round =>
    obtain ⟨j, hj, rfl, rfl, hr, hg⟩ := hrel
    by_cases hlt : j < n
    · have hlt' : (j : Int) < (n : Int) := by omega
      go_wp2_with (fail)
      refine (markText_any (k + j) _ (by omega) (by omega)).mono ?_
      rintro e w1 ⟨rfl, hb1⟩
      have r1 := row_below hr hb1 (Nat.le_refl _)
      have g1 := gr_below hg hb1
      obtain ⟨u1, c1⟩ := row_cell r1 (j := j) (by omega)
      have f1 := r1.frozenAt j
      have s1 := (r1.stored j (.string (markS (k + j)))).1
      have t1 := gr_set g1 (i := j) (.string (markS (k + j)))
      have e1 : ((markN n k).take j ++ L.drop j).set j (markS (k + j)) = (markN n k).take (j + 1) ++ L.drop (j + 1) := by
        rw [← markN_get hlt]; exact part_set (by rw [markN_len]; omega) (by omega)
      have s2 := s1
      rw [← List.map_set, e1] at s2
      clear s1
      go_wp2
      exact ⟨⟨j + 1, by omega, by go_num, by go_num, s2, t1⟩, by simp [intOf]; omega⟩
    · obtain rfl : j = n := by omega
      go_wp2
      go_ret
      rw [List.take_of_length_le (by rw [markN_len]; exact Nat.le_refl _), List.drop_of_length_le (by omega), List.append_nil] at hr
      exact ⟨rfl, hr, hg⟩
theorem markStringS_any (A : Option Addr) (L : List ByteArray) (c base k : Nat) (w : World) (hF : OwnS w base (.slice A L.length c) L) (h0 : 1 ≤ k) (h1 : k + L.length ≤ 4000000) :
    Calls Tryd.prog 73 #[.slice A L.length c, .int .i64 k] w fun e w' => e = .returned (.int .i64 ((k + L.length : Nat) : Int)) ∧
      OwnS w' base (.slice A L.length c) (markN L.length k) ∧ w.grownBy w' (A.map (·.block)) := by
  rcases hF.2 with ⟨hv, hz⟩ | ⟨g, cap, cur, hv, _⟩
  · have hz' : L = [] := List.eq_nil_of_length_eq_zero hz
    subst hz'
    cases hv
    go_enter Tryd.func73, Tryd.ntmps73
    go_wp2
    go_loop [1, 5] (fun q i => q = .int .i64 k ∧ i = .int .i64 0) (fun _ _ => 0)
    case atStart => exact ⟨rfl, rfl⟩
    case round =>
      obtain ⟨rfl, rfl⟩ := hrel
      go_wp2
      go_ret
      exact ⟨rfl, World.ownsRow_nil _ _ _ _, World.grownBy.refl _ _⟩
  · cases hv
    refine (markStringS_some g L.length c base k L w hF h0 h1).mono fun e w' ⟨he, h2, h3⟩ => ⟨he, ?_, h3⟩
    unfold OwnS
    rw [markN_len]
    exact h2

set_option maxHeartbeats 2000000 in
theorem heldStringS_any (A : Option Addr) (n c k : Nat) (w : World) (hF : Strs w w.heap.size A (markN n k)) (h0 : 1 ≤ k) (h1 : k + n ≤ 4000000) :
    Calls Tryd.prog 75 #[.slice A n c, .int .i64 k] w fun e w' => e = .returned (.int .i64 ((k + n : Nat) : Int)) ∧ Below w.heap.size w w' := by
  go_enter Tryd.func75, Tryd.ntmps75
  go_wp2
  go_loopw [1, 5] (fun q i wr => ∃ j : Nat, j ≤ n ∧ i = .int .i64 j ∧ q = .int .i64 ((k + j : Nat) : Int) ∧ Below w.heap.size w wr) (fun _ i _ => n - (intOf i).toNat)
  case atStart => exact ⟨0, by omega, rfl, rfl, Below.refl _ _⟩
  case round =>
    obtain ⟨j, hj, rfl, rfl, hb⟩ := hrel
    by_cases hlt : j < n
    · have hlt' : (j : Int) < (n : Int) := by omega
      obtain ⟨a, rfl, hab, a0⟩ := (hF.below hb (Nat.le_refl _)).2 j (by rw [markN_len]; exact hlt)
      rw [markN_get hlt] at a0
      obtain ⟨I, f, hI, g0, gk, gc, ge⟩ := class_grown wr
      have x0 := fun s => kept_cell (gk s) a0
      have M0 := fun W => markText_any (k + j) W (by omega) (by omega)
      clear a0
      go_wp2
      refine wp_region_kept f (by kernel_rfl) (by kernel_rfl) g0 ?_
      repeat (first
        | go_big_quiet_skip
        | (go_big_quiet_want; go_big_quiet_op; first | go_big_quiet_on | (apply Exists.intro; refine ⟨fun s => ?_, ?_⟩; (go_at_call 72; refine (M0 _).mono ?_; rintro e w4 ⟨rfl, hb4⟩; exact ⟨rfl, gc _ _ hb4⟩); go_big_quiet_on)))
      refine wpQuiet_nil ?_
      intro w5 h5
      have hb5 := ge _ h5
      clear g0 gk gc ge x0
      go_wp2
      exact ⟨⟨j + 1, by omega, by go_num, by go_num, hb.trans (hb5.mono hb.size)⟩, by simp [intOf]; omega⟩
    · obtain rfl : j = n := by omega
      go_wp2
      go_ret
      exact ⟨rfl, hb⟩

theorem infoStr : (Tryd.prog.info? 9).map (fun i => (i.zero, i.size, i.bytes)) = some (some (.string ⟨#[]⟩), 1, 16) := by kernel_rfl
theorem below_apps {B base : Nat} {w wr w1 : World} {e : TypeId} {size n : Nat} {v : Value} {xs : List Value} {o : Obj} (hb : Below B w wr) (hB : B ≤ w.heap.size) (hown : wr.ownsRow base e size v n xs) (hBb : B ≤ base) (hg : (wr.alloc o).grownBy w1 v.ownBlock) : Below B w w1 :=
  (hb.alloc (Nat.le_trans hB hb.size) o).grown hg (by have := hb.size; simp; omega) (fun k e => Nat.le_trans hBb (hown.lt k e).1)
theorem one_str (s : ByteArray) : ∀ u ∈ [Value.string s], u.oneCell' = true := by intro u hu; simp at hu; subst hu; rfl
theorem ownS_snoc {w : World} {base : Nat} {v : Value} {L : List ByteArray} {x : ByteArray} (h : w.ownsRow base 9 1 v (L.length + 1) (L.map Value.string ++ [.string x])) : OwnS w base v (L ++ [x]) := by
  unfold OwnS
  simpa using h
theorem ownS_base {w : World} {base base' : Nat} {v : Value} {L : List ByteArray} (h : OwnS w base v L) (hb : base' ≤ base) : OwnS w base' v L := by
  obtain ⟨h0, h1⟩ := h
  refine ⟨h0, ?_⟩
  rcases h1 with h1 | ⟨g, cap, cur, r1, r2, r3⟩
  · exact .inl h1
  · exact .inr ⟨g, cap, cur, r1, by omega, r3⟩
theorem ownS_some {w : World} {base : Nat} {v : Value} {L : List ByteArray} (h : OwnS w base v L) : ∃ A c, v = .slice A L.length c := by
  rcases h.2 with ⟨rfl, hz⟩ | ⟨g, cap, cur, rfl, _⟩
  · exact ⟨none, 0, by rw [hz]⟩
  · exact ⟨_, _, rfl⟩

end Go.Proofs.YtjnbhppnchmeoaaDoor

namespace Go.Proofs.YtjnbhppnchmeoaaDoor
open Go.RowKit Go.ChangeShapes Go.WideShapes
set_option linter.unusedVariables false

theorem cellsStr1 : Tryd.prog.cellsOf 9 = 1 := by kernel_rfl
set_option maxRecDepth 1000000 in
theorem strs_arg {H : Type} {enc : TypeId × Value → H} {W : World} {r : Reach} {b0 : Nat} {v : Value} {d : DataW H} {p : List MemPlace} (hval : Value.okWide Tryd.prog W r b0 44 v) (h : DataW.Trod enc Tryd.prog W 0 (fun _ => true) true 44 v d p) :
    ∃ A L c, v = .slice A L.length c ∧ Strs W W.heap.size A L ∧ ∀ s ∈ L, s.size ≤ maxLen := by
  obtain ⟨A, n, c, rfl⟩ := okWide_slice Tryd.underlying44 hval
  obtain ⟨m, hm⟩ := h
  have hm' : DataW.trod enc Tryd.prog W 0 (fun _ => true) true m 44 [.slice A n c] = some (d, p) := hm
  rcases open_strings Tryd.underlying44 Tryd.underlying9 cellsStr1 hm' with ⟨h1, _⟩ | ⟨a, len, cap, zs, h1, _, hl, hc, hz, _, hcell, hwf⟩
  · injection h1 with h1 _
    cases h1
    exact ⟨none, [], 0, rfl, ⟨by simp [maxLen], fun i h => absurd h (by simp)⟩, fun s h => absurd h (by simp)⟩
  · injection h1 with h1 _
    cases h1
    have hzl : zs.length = c := by simpa using hz
    have htl : (zs.take n).length = n := by simp; omega
    refine ⟨some a, zs.take n, c, by rw [htl], ⟨by rw [htl]; omega, fun i hi => ?_⟩, fun s hs => hwf s (List.mem_of_mem_take hs)⟩
    have hi' : i < zs.length := by rw [htl] at hi; omega
    have hc1 := hcell i hi'
    have hg : zs.getD i ByteArray.empty = (zs.take n)[i] := by rw [List.getElem_take]; simp [List.getD, hi']
    rw [hg] at hc1
    exact ⟨a, rfl, by have := World.block_lt_of_cell? W _ hc1; rw [add_blk] at this; exact this, hc1⟩
theorem Rw.strs {w : World} {lo hi n c : Nat} {A : Option Addr} {L : List ByteArray} (h : Rw w lo hi 9 1 (.slice A n c) L.length (L.map Value.string)) : Strs w w.heap.size A L := (OwnS.strs (base := lo) (c := c) (n := n) h.1).2

theorem markS_rw (A : Option Addr) (L : List ByteArray) (c lo hi k : Nat) (w : World) (h : Rw w lo hi 9 1 (.slice A L.length c) L.length (L.map Value.string)) (h0 : 1 ≤ k) (h1 : k + L.length ≤ 4000000) :
    Calls Tryd.prog 73 #[.slice A L.length c, .int .i64 k] w fun e w' => e = .returned (.int .i64 ((k + L.length : Nat) : Int)) ∧
      Rw w' lo hi 9 1 (.slice A L.length c) (markN L.length k).length ((markN L.length k).map Value.string) ∧ w.grownBy w' (A.map (·.block)) :=
  (markStringS_any A L c lo k w h.1 h0 h1).mono fun e w' ⟨he, h2, h3⟩ => ⟨he, ⟨h2, h.2⟩, h3⟩

end Go.Proofs.YtjnbhppnchmeoaaDoor

namespace Go.Proofs.YtjnbhppnchmeoaaDoor
open Go.RowKit Go.ChangeShapes Go.WideShapes Go.Deep
set_option linter.unusedVariables false

/-- A group. -/
structure Grp where
  name : ByteArray
  acked : Int
  deriving Inhabited
namespace Grp
def cells (f : Grp) : List Value := [.string f.name, .int .i64 f.acked]
def val (f : Grp) : Value := .agg #[.string f.name, .int .i64 f.acked]
/-- What every group keeps to: its name is no longer than a machine allows, its number is one of 64 bits. -/
def fits (f : Grp) : Prop := f.name.size ≤ maxLen ∧ -9223372036854775808 ≤ f.acked ∧ f.acked ≤ 9223372036854775807
end Grp
/-- A topic. -/
structure Tpc where
  name : ByteArray
  base : Int
  held : List ByteArray
  groups : List Grp
/-- The value of a topic. -/
abbrev topV (n : ByteArray) (b : Int) (h g : Value) : Value := .agg #[.string n, .int .i64 b, h, g]
/-- What every topic keeps to. -/
def Tpc.fits (t : Tpc) : Prop := t.name.size ≤ maxLen ∧ (-9223372036854775808 ≤ t.base ∧ t.base ≤ 9223372036854775807) ∧ (∀ s ∈ t.held, s.size ≤ maxLen) ∧ ∀ g ∈ t.groups, g.fits
/-- The groups of a slice, below block B. -/
def Grs (w : World) (B : Nat) (A : Option Addr) (L : List Grp) : Prop :=
  L.length ≤ maxLen ∧ ∀ i (h : i < L.length), ∃ a, A = some a ∧ a.block < B ∧ w.cell? (a.add (i * 2)) = some (.string L[i].name) ∧ w.cell? (a.add (i * 2 + 1)) = some (.int .i64 L[i].acked)
theorem Grs.of_block {w w' : World} {B : Nat} {A : Option Addr} {L : List Grp} (h : Grs w B A L) (hb : ∀ k, k < B → w'.heap[k]? = w.heap[k]?) : Grs w' B A L :=
  ⟨h.1, fun i hi => by
    obtain ⟨a, e, h1, h2, h3⟩ := h.2 i hi
    refine ⟨a, e, h1, ?_, ?_⟩
    · rw [World.cell?_of_block (a := a.add _) (hb _ (by rw [add_blk]; exact h1))]; exact h2
    · rw [World.cell?_of_block (a := a.add _) (hb _ (by rw [add_blk]; exact h1))]; exact h3⟩
theorem Grs.mono {w : World} {B B' : Nat} {A : Option Addr} {L : List Grp} (h : Grs w B A L) (hb : B ≤ B') : Grs w B' A L :=
  ⟨h.1, fun i hi => by
    obtain ⟨a, e, h1, h2⟩ := h.2 i hi
    exact ⟨a, e, by omega, h2⟩⟩
theorem Grs.below {w w' : World} {B C : Nat} {A : Option Addr} {L : List Grp} (h : Grs w B A L) (hb : Below C w w') (hC : B ≤ C) : Grs w' B A L := h.of_block fun k hk => hb.block k (by omega)
theorem Grs.on {w w' : World} {A : Option Addr} {L : List Grp} (h : Grs w w.heap.size A L) (hb : Below w.heap.size w w') : Grs w' w'.heap.size A L := (h.below hb (Nat.le_refl _)).mono hb.size
theorem Strs.on {w w' : World} {A : Option Addr} {L : List ByteArray} (h : Strs w w.heap.size A L) (hb : Below w.heap.size w w') : Strs w' w'.heap.size A L := (h.below hb (Nat.le_refl _)).mono hb.size
/-- A group of a slice, its cells as a walk asks for them. -/
theorem Grs.at {w : World} {B : Nat} {A : Option Addr} {L : List Grp} (h : Grs w B A L) (i : Nat) (hi : i < L.length) :
    ∃ a, A = some a ∧ a.block < B ∧ w.cell? (a.add (i * 2)) = some (.string L[i].name) ∧ w.cell? ⟨(a.add (i * 2)).block, (a.add (i * 2)).off + 1, none⟩ = some (.int .i64 L[i].acked) := by
  obtain ⟨a, e, h1, h2, h3⟩ := h.2 i hi
  exact ⟨a, e, h1, h2, by rw [add_far]; exact h3⟩

/-- The cells of groups, one behind the other. -/
def gflat (L : List Grp) : List Value := L.flatMap Grp.cells
theorem gflat_nil : gflat [] = [] := rfl
theorem gflat_cons (f : Grp) (L : List Grp) : gflat (f :: L) = .string f.name :: .int .i64 f.acked :: gflat L := rfl
theorem gflat_append (L M : List Grp) : gflat (L ++ M) = gflat L ++ gflat M := by simp [gflat]
theorem gflat_len (L : List Grp) : (gflat L).length = L.length * 2 := by
  induction L with
  | nil => rfl
  | cons f L ih => rw [gflat_cons]; simp only [List.length_cons, ih]; omega
theorem gflat_get (L : List Grp) : ∀ (i : Nat) (hi : i < L.length) (r : Nat), r < 2 → (gflat L)[i * 2 + r]? = L[i].cells[r]? := by
  induction L with
  | nil => intro i hi; simp at hi
  | cons f L ih =>
    intro i hi r hr
    rw [gflat_cons]
    cases i with
    | zero =>
      match r, hr with
      | 0, _ => rfl
      | 1, _ => rfl
    | succ i =>
      rw [show (i + 1) * 2 + r = (i * 2 + r) + 1 + 1 by omega]
      simp only [List.getElem?_cons_succ, List.getElem_cons_succ]
      exact ih i (by simpa using hi) r hr
theorem gflat_set (f : Grp) : ∀ (L : List Grp) (i : Nat), ((gflat L).set (i * 2) (.string f.name)).set (i * 2 + 1) (.int .i64 f.acked) = gflat (L.set i f) := by
  intro L
  induction L with
  | nil => intro i; simp [gflat]
  | cons g L ih =>
    intro i
    cases i with
    | zero => rfl
    | succ i =>
      rw [gflat_cons, show (i + 1) * 2 = i * 2 + 1 + 1 by omega, List.set_cons_succ, List.set_cons_succ, List.set_cons_succ, List.set_cons_succ]
      rw [List.set_cons_succ, gflat_cons, ← ih i]
theorem gflat_one (L : List Grp) : ∀ u ∈ gflat L, u.oneCell' = true := by
  intro u hu
  obtain ⟨f, _, h⟩ := List.mem_flatMap.1 hu
  simp [Grp.cells] at h
  rcases h with rfl | rfl <;> rfl
def zeroGrp : Grp := ⟨⟨#[]⟩, 0⟩
theorem gflat_made (n : Nat) : (madeCells #[.string ⟨#[]⟩, .int .i64 0] (n * 2)).toList = gflat (List.replicate n zeroGrp) := by
  apply List.ext_getElem?
  intro j
  by_cases hj : j < n * 2
  · have h := gflat_get (List.replicate n zeroGrp) (j / 2) (by simp; omega) (j % 2) (by omega)
    rw [show j / 2 * 2 + j % 2 = j by omega] at h
    rw [h]
    have : j % 2 = 0 ∨ j % 2 = 1 := by omega
    rcases this with e | e <;> simp [madeCells, hj, e, zeroGrp, Grp.cells]
  · rw [List.getElem?_eq_none (l := gflat _) (by rw [gflat_len]; simp; omega)]
    simp [madeCells]
    omega
/-- A row of groups of the call's own. -/
def OwnG (w : World) (base : Nat) (v : Value) (L : List Grp) : Prop := w.ownsRow base 73 2 v L.length (gflat L)
theorem OwnG.slice {w : World} {base : Nat} {v : Value} {L : List Grp} (h1 : OwnG w base v L) : ∃ A c, v = .slice A L.length c ∧ Grs w w.heap.size A L := by
  rcases h1.2 with ⟨rfl, hz⟩ | ⟨g, cap, cur, rfl, hb, hg, hl, hm, hs, ht⟩
  · have : L = [] := List.eq_nil_of_length_eq_zero hz
    subst this
    exact ⟨none, 0, rfl, by simp [maxLen], fun i h => absurd h (by simp)⟩
  · refine ⟨some ⟨g, 0, none⟩, cap, rfl, by omega, fun i hi => ?_⟩
    have hc := World.ownsRow.cells h1 (g := g) rfl
    have k0 := hc (i * 2 + 0) _ (by rw [gflat_get L i hi 0 (by omega)]; rfl)
    have k1 := hc (i * 2 + 1) _ (by rw [gflat_get L i hi 1 (by omega)]; rfl)
    exact ⟨⟨g, 0, none⟩, rfl, (Array.getElem?_eq_some_iff.1 hg).1, k0, k1⟩
theorem OwnG.grs {w : World} {base c n : Nat} {A : Option Addr} {L : List Grp} (h : OwnG w base (.slice A n c) L) : Grs w w.heap.size A L := by
  obtain ⟨A', c', e, hf⟩ := h.slice
  cases e
  exact hf
theorem Rw.grs {w : World} {lo hi n c : Nat} {A : Option Addr} {L : List Grp} (h : Rw w lo hi 73 2 (.slice A n c) L.length (gflat L)) : Grs w w.heap.size A L := OwnG.grs (base := lo) (c := c) (n := n) h.1
theorem infoGrp : (Tryd.prog.info? 73).map (fun i => (i.zero, i.size, i.bytes)) = some (some (.agg #[.string ⟨#[]⟩, .int .i64 0]), 2, 24) := by kernel_rfl
/-- The two cells of one group of an owned row, as a store asks for them. -/
theorem row_grp {w : World} {base g n c : Nat} {M : List Grp} (h : w.ownsRow base 73 2 (.slice (some ⟨g, 0, none⟩) n c) n (gflat M)) {k : Nat} (hk : k < M.length) :
    w.cell? ⟨g, k * 2, none⟩ = some (.string M[k].name) ∧ w.cell? ⟨g, k * 2 + 1, none⟩ = some (.int .i64 M[k].acked) ∧
      w.frozen? ⟨g, k * 2, none⟩ = false ∧ w.frozen? ⟨g, k * 2 + 1, none⟩ = false := by
  have hl := h.1
  rw [gflat_len] at hl
  refine ⟨?_, ?_, h.frozenAt _, h.frozenAt _⟩
  · rw [h.cellAt _ (by omega), show k * 2 = k * 2 + 0 from rfl, gflat_get M k hk 0 (by omega)]; rfl
  · rw [h.cellAt _ (by omega), gflat_get M k hk 1 (by omega)]; rfl
theorem row_gput {w : World} {base g n c : Nat} {M : List Grp} (h : w.ownsRow base 73 2 (.slice (some ⟨g, 0, none⟩) n c) n (gflat M)) (k : Nat) (f : Grp) :
    ((w.setCell ⟨g, k * 2, none⟩ (.string f.name)).setCell ⟨g, k * 2 + 1, none⟩ (.int .i64 f.acked)).ownsRow base 73 2 (.slice (some ⟨g, 0, none⟩) n c) n (gflat (M.set k f)) := by
  have h1 := (h.stored (k * 2) (.string f.name)).1
  have h2 := (h1.stored (k * 2 + 1) (.int .i64 f.acked)).1
  rw [gflat_set] at h2
  exact h2
end Go.Proofs.YtjnbhppnchmeoaaDoor

namespace Go.Proofs.YtjnbhppnchmeoaaDoor
open Go.RowKit
set_option linter.unusedVariables false
set_option maxRecDepth 1000000

/-- What is known of the capacity of a slice. -/
structure Cap (A : Option Addr) (n c : Nat) : Prop where
  nil : A = none → c = 0
  le : n ≤ c
  max : c ≤ maxLen
theorem Cap.own {w : World} {lo n m c size : Nat} {e : TypeId} {A : Option Addr} {xs : List Value} (h : w.ownsRow lo e size (.slice A n c) m xs) : Cap A m c := by
  rcases h.2 with ⟨he, h0⟩ | ⟨g, cap, cur, he, hb, hg, hl, hm, _⟩
  · cases he; exact ⟨fun _ => rfl, by omega, by simp [maxLen]⟩
  · cases he; exact ⟨(fun e => by cases e), hl, hm⟩
theorem grown_same (w : World) (r : Option Nat) : w.grownBy w r := ⟨rfl, rfl, rfl, Nat.le_refl _, fun _ _ _ => rfl⟩
theorem strs_news {w : World} {B : Nat} {a : Addr} {L : List ByteArray} (h : Strs w B (some a) L) : ∀ j u, (L.map Value.string)[j]? = some u → w.cell? (a.add j) = some u := by
  intro j u hj
  have hjl : j < L.length := by have := (List.getElem?_eq_some_iff.1 hj).1; simpa using this
  obtain ⟨a', e, _, c0⟩ := h.2 j hjl
  cases e
  rw [c0, ← hj]
  simp [hjl]
theorem grs_news {w : World} {B : Nat} {a : Addr} {L : List Grp} (h : Grs w B (some a) L) : ∀ j u, (gflat L)[j]? = some u → w.cell? (a.add j) = some u := by
  intro j u hj
  have hjl : j < L.length * 2 := by rw [← gflat_len]; exact (List.getElem?_eq_some_iff.1 hj).1
  have hi : j / 2 < L.length := by omega
  have hg := gflat_get L (j / 2) hi (j % 2) (by omega)
  rw [show j / 2 * 2 + j % 2 = j by omega, hj] at hg
  obtain ⟨a', e, _, c0, c1⟩ := h.2 (j / 2) hi
  cases e
  have : j % 2 = 0 ∨ j % 2 = 1 := by omega
  rcases this with e | e
  · rw [e] at hg
    rw [show j = j / 2 * 2 by omega, c0]
    exact hg.symm
  · rw [e] at hg
    rw [show j = j / 2 * 2 + 1 by omega, c1]
    exact hg.symm
theorem strs_none {w : World} {B : Nat} {L : List ByteArray} (h : Strs w B none L) : L = [] := by
  cases L with
  | nil => rfl
  | cons f L => obtain ⟨a, e, _⟩ := h.2 0 (by simp); cases e
theorem grs_none {w : World} {B : Nat} {L : List Grp} (h : Grs w B none L) : L = [] := by
  cases L with
  | nil => rfl
  | cons f L => obtain ⟨a, e, _⟩ := h.2 0 (by simp); cases e
theorem wpList_app_str {ops : Array Oper} {rest : List Oper} {o : Oper} {a : Act} {w : World} {Q : Exit → Act → World → Prop} (hgd : o.guard = none) (s x : Operand)
    (ho : o.op = .call { callee := .builtin .append, args := #[s, x], argTypes := #[44, 44] })
    (base : Nat) (v : Value) (L : List ByteArray) (hs : a.eval s = v) (hown : OwnS w base v L) (B : Nat) (A : Option Addr) (M : List ByteArray) (c : Nat) (hx : a.eval x = .slice A M.length c) (hc : A = none → c = 0) (hM : Strs w B A M)
    (hlen : L.length + M.length ≤ 1000000) (hbase : base ≤ w.heap.size)
    (h : ∀ A' c' w', OwnS w' base (.slice A' (L ++ M).length c') (L ++ M) → w.grownBy w' v.ownBlock → wpList Tryd.prog ops Q rest (a.put o.dst (.slice A' (L ++ M).length c')) w') : wpList Tryd.prog ops Q (o :: rest) a w := by
  obtain ⟨i0, hi, hz0, hz1, hz2⟩ := info_parts infoStr
  have key : ∀ v' w', OwnS w' base v' (L ++ M) → w.grownBy w' v.ownBlock → wpList Tryd.prog ops Q rest (a.put o.dst v') w' := by
    intro v' w' h1 h2
    obtain ⟨A', c', rfl⟩ := ownS_some h1
    exact h A' c' w' h1 h2
  cases A with
  | none =>
    have hz := strs_none hM
    subst hz
    obtain rfl := hc rfl
    unfold OwnS at hown
    refine wpList_append_own_none hgd s x 44 ho base 9 i0 1 Tryd.underlying44 hi v _ _ hs hown (by rw [hx]; rfl) (key v w ?_ (grown_same _ _))
    rw [List.append_nil]; exact hown
  | some ad =>
    refine wpList_append_own w hgd s x 44 ho base 9 i0 (.string ⟨#[]⟩) 1 16 Tryd.underlying44 hi hz0 hz1 hz2 rfl (by decide) v _ _ hs hown ad M.length c (M.map Value.string) hx (by simp) (strs_news hM) (by intro u hu; obtain ⟨t, _, rfl⟩ := List.mem_map.1 hu; rfl) (by unfold maxLen; omega) (by omega) hbase ?_
    intro v' w' h1 h2 _
    refine key v' w' ?_ h2
    unfold OwnS
    rw [List.length_append, List.map_append]
    exact h1
theorem wpList_app_grp {ops : Array Oper} {rest : List Oper} {o : Oper} {a : Act} {w : World} {Q : Exit → Act → World → Prop} (hgd : o.guard = none) (s x : Operand)
    (ho : o.op = .call { callee := .builtin .append, args := #[s, x], argTypes := #[45, 45] })
    (base : Nat) (v : Value) (L : List Grp) (hs : a.eval s = v) (hown : OwnG w base v L) (B : Nat) (A : Option Addr) (M : List Grp) (c : Nat) (hx : a.eval x = .slice A M.length c) (hc : A = none → c = 0) (hM : Grs w B A M)
    (hlen : L.length + M.length ≤ 1000000) (hbase : base ≤ w.heap.size)
    (h : ∀ A' c' w', OwnG w' base (.slice A' (L ++ M).length c') (L ++ M) → w.grownBy w' v.ownBlock → wpList Tryd.prog ops Q rest (a.put o.dst (.slice A' (L ++ M).length c')) w') : wpList Tryd.prog ops Q (o :: rest) a w := by
  obtain ⟨i0, hi, hz0, hz1, hz2⟩ := info_parts infoGrp
  have key : ∀ v' w', OwnG w' base v' (L ++ M) → w.grownBy w' v.ownBlock → wpList Tryd.prog ops Q rest (a.put o.dst v') w' := by
    intro v' w' h1 h2
    obtain ⟨A', c', rfl, _⟩ := h1.slice
    exact h A' c' w' h1 h2
  cases A with
  | none =>
    have hz := grs_none hM
    subst hz
    obtain rfl := hc rfl
    unfold OwnG at hown
    refine wpList_append_own_none hgd s x 45 ho base 73 i0 2 Tryd.underlying45 hi v _ _ hs hown (by rw [hx]; rfl) (key v w ?_ (grown_same _ _))
    rw [List.append_nil]; exact hown
  | some ad =>
    refine wpList_append_own w hgd s x 45 ho base 73 i0 (.agg #[.string ⟨#[]⟩, .int .i64 0]) 2 24 Tryd.underlying45 hi hz0 hz1 hz2 rfl (by decide) v _ _ hs hown ad M.length c (gflat M) hx (gflat_len M) (grs_news hM) (gflat_one M) (by unfold maxLen; omega) (by omega) hbase ?_
    intro v' w' h1 h2 _
    refine key v' w' ?_ h2
    unfold OwnG
    rw [List.length_append, gflat_append]
    exact h1
theorem strs_one (w : World) (s : ByteArray) (t : TypeId) : Strs (w.alloc (.cells #[.string s] t)) (w.heap.size + 1) (some ⟨w.heap.size, 0, none⟩) [s] := by
  refine ⟨by simp [maxLen], fun i hi => ⟨_, rfl, by simp, ?_⟩⟩
  exact one_cell w (.string s) t i _ (by simp at hi; subst hi; rfl)
theorem grs_one (w : World) (g : Grp) (t : TypeId) : Grs (w.alloc (.cells #[.string g.name, .int .i64 g.acked] t)) (w.heap.size + 1) (some ⟨w.heap.size, 0, none⟩) [g] := by
  have h := Blk.fresh w t [.string g.name, .int .i64 g.acked]
  refine ⟨by simp [maxLen], fun i hi => ⟨_, rfl, by simp, ?_, ?_⟩⟩
  · obtain rfl : i = 0 := by simp at hi; omega
    rw [add_none]; exact h.cell (i := 0) rfl
  · obtain rfl : i = 0 := by simp at hi; omega
    rw [add_none]; exact h.cell (i := 1) rfl
/-- Rows of different kinds lie in different blocks. -/
theorem own_apart {w : World} {b b' s s' n m : Nat} {t t' : TypeId} {u v : Value} {xs ys : List Value} (h : w.ownsRow b t s u n xs) (h2 : w.ownsRow b' t' s' v m ys) (ht : t ≠ t') : u.ownBlock = none ∨ u.ownBlock ≠ v.ownBlock := by
  rcases h.2 with ⟨he, _⟩ | ⟨g, cap, cur, he, _, hg, _⟩
  · rw [he]; exact .inl rfl
  · refine .inr fun e => ?_
    rw [he] at e
    rcases h2.2 with ⟨he2, _⟩ | ⟨g2, cap2, cur2, he2, _, hg2, _⟩
    · rw [he2] at e; cases e
    · rw [he2] at e
      cases e
      rw [hg] at hg2
      injection hg2 with hg2
      injection hg2 with _ h4 _
      exact ht h4
theorem own_not {w : World} {b s n g : Nat} {t t' : TypeId} {v : Value} {xs cs : List Value} (h : w.ownsRow b t s v n xs) (hB : Blk w g t' cs) (ht : t ≠ t') : v.ownBlock ≠ some g := by
  intro e
  rcases h.2 with ⟨he, _⟩ | ⟨k, cap, cur, he, _, hg, _⟩
  · rw [he] at e; cases e
  · rw [he] at e
    cases e
    unfold Blk at hB
    rw [hg] at hB
    injection hB with hB
    injection hB with _ h4 _
    exact ht h4
theorem own_empty (w : World) (t : TypeId) (s : Nat) (hs : 0 < s) : (w.alloc (.cells #[] t)).ownsRow w.heap.size t s (.slice (some ⟨w.heap.size, 0, none⟩) 0 0) 0 [] :=
  ⟨by simp, .inr ⟨w.heap.size, 0, #[], rfl, Nat.le_refl _, by have := heap_alloc_new w (.cells #[] t); simpa using this, Nat.le_refl _, by simp [maxLen], by simp, by simp⟩⟩
/-- A world that grew at one row of the call's own is still as it was below. -/
theorem below_row {B : Nat} {w w' w2 : World} {row : Option Nat} (hb : Below B w w') (hB : B ≤ w.heap.size) (hg : w'.grownBy w2 row) (hr : ∀ k, row = some k → B ≤ k) : Below B w w2 := hb.grown hg (Nat.le_trans hB hb.size) hr
end Go.Proofs.YtjnbhppnchmeoaaDoor
