/- Rows of strings: what the exact laws do with them. Slices of strings as arguments of the exact laws. What the exact laws do with a SeglogOut. -/
import Derived.Test.YtebkblmejkkhfaaGreatDoorMarkFW
import Derived.Test.YtebkblmejkkhfaaGreatDoorChgW
import Derived.SliceStrings
import Derived.Test.YtebkblmejkkhfaaGreatDoorSgMarkW
namespace Go.Proofs.YtebkblmejkkhfaaGreatDoor
open Go.RowKit
set_option linter.unusedVariables false

/-- The strings of a slice, below block B. -/
def Strs (w : World) (B : Nat) (A : Option Addr) (L : List ByteArray) : Prop :=
  L.length ≤ maxLen ∧ ∀ i (h : i < L.length), ∃ a, A = some a ∧ a.block < B ∧ w.cell? (a.add i) = some (.string L[i])
theorem Strs.below {w w' : World} {B C : Nat} {A : Option Addr} {L : List ByteArray} (h : Strs w B A L) (hb : Below C w w') (hC : B ≤ C) : Strs w' B A L :=
  ⟨h.1, fun i hi => by
    obtain ⟨a, e, h1, h2⟩ := h.2 i hi
    exact ⟨a, e, h1, by rw [World.cell?_of_block (a := a.add _) (hb.block _ (by rw [add_blk]; omega))]; exact h2⟩⟩
theorem Strs.mono {w : World} {B B' : Nat} {A : Option Addr} {L : List ByteArray} (h : Strs w B A L) (hb : B ≤ B') : Strs w B' A L :=
  ⟨h.1, fun i hi => by
    obtain ⟨a, e, h1, h2⟩ := h.2 i hi
    exact ⟨a, e, by omega, h2⟩⟩
/-- A row of strings of the call's own. -/
def OwnS (w : World) (base : Nat) (v : Value) (L : List ByteArray) : Prop := w.ownsRow base 9 1 v L.length (L.map Value.string)
theorem OwnS.strs {w : World} {base c n : Nat} {A : Option Addr} {L : List ByteArray} (h : OwnS w base (.slice A n c) L) : n = L.length ∧ Strs w w.heap.size A L := by
  rcases h.2 with ⟨hv, hz⟩ | ⟨g, cap, cur, hv, hb, hg, hl, hm, hs, ht⟩
  · have : L = [] := List.eq_nil_of_length_eq_zero hz
    subst this
    cases hv
    exact ⟨rfl, by simp [maxLen], fun i h => absurd h (by simp)⟩
  · cases hv
    refine ⟨rfl, by omega, fun i hi => ?_⟩
    have hc := World.ownsRow.cells h (g := g) rfl i (.string L[i]) (by simp [hi])
    exact ⟨⟨g, 0, none⟩, rfl, (Array.getElem?_eq_some_iff.1 hg).1, hc⟩

set_option maxHeartbeats 1000000 in
theorem eqStringS_same (A B : Option Addr) (L : List ByteArray) (c d : Nat) (w : World) (hA : Strs w w.heap.size A L) (hB : Strs w w.heap.size B L) :
    Calls Tryz.prog 53 #[.slice A L.length c, .slice B L.length d] w fun e w' => e = .returned (.bool true) ∧ Below w.heap.size w w' := by
  have hn := hA.1
  unfold maxLen at hn
  go_enter Tryz.func53, Tryz.ntmps53
  go_wp2
  go_loopw [5] (fun i wr => ∃ k : Nat, k ≤ L.length ∧ i = .int .i64 k ∧ Below w.heap.size w wr) (fun i _ => L.length - (intOf i).toNat)
  case atStart => exact ⟨0, by omega, rfl, Below.refl _ _⟩
  case round =>
    obtain ⟨k, hk, rfl, hb⟩ := hrel
    by_cases hlt : k < L.length
    · obtain ⟨a, rfl, hab, a0⟩ := (hA.below hb (Nat.le_refl _)).2 k hlt
      obtain ⟨b, rfl, hbb, b0⟩ := (hB.below hb (Nat.le_refl _)).2 k hlt
      have hlt' : (k : Int) < (L.length : Int) := by omega
      go_wp2
      go_quiet (fail)
      go_wp2
      exact ⟨⟨k + 1, by omega, by go_num, below_drewN hb _⟩, by simp [intOf]; omega⟩
    · obtain rfl : k = L.length := by omega
      go_wp2
      go_ret
      exact ⟨rfl, hb⟩

/-- The marks of n strings, from k on. -/
def markN (n k : Nat) : List ByteArray := (List.range n).map fun i => markS (k + i)
theorem markN_len (n k : Nat) : (markN n k).length = n := by simp [markN]
theorem markN_get {n k i : Nat} (h : i < n) : (markN n k)[i]'(by rw [markN_len]; exact h) = markS (k + i) := by simp [markN]

set_option maxHeartbeats 2000000 in
theorem markStringS_some (g n c base k : Nat) (L : List ByteArray) (w : World) (hR : w.ownsRow base 9 1 (.slice (some ⟨g, 0, none⟩) n c) n (L.map Value.string)) (h0 : 1 ≤ k) (h1 : k + n ≤ 4000000) :
    Calls Tryz.prog 54 #[.slice (some ⟨g, 0, none⟩) n c, .int .i64 k] w fun e w' => e = .returned (.int .i64 ((k + n : Nat) : Int)) ∧
      w'.ownsRow base 9 1 (.slice (some ⟨g, 0, none⟩) n c) n ((markN n k).map Value.string) ∧ w.grownBy w' (some g) := by
  have hl := hR.1
  rw [List.length_map] at hl
  have hl' : L.length = n := by omega
  clear hl
  go_enter Tryz.func54, Tryz.ntmps54
  go_wp2
  go_loopw [1, 5] (fun q i wr => ∃ j : Nat, j ≤ n ∧ i = .int .i64 j ∧ q = .int .i64 ((k + j : Nat) : Int) ∧ wr.ownsRow base 9 1 (.slice (some ⟨g, 0, none⟩) n c) n (((markN n k).take j ++ L.drop j).map Value.string) ∧ w.grownBy wr (some g)) (fun _ i _ => n - (intOf i).toNat)
  case atStart => exact ⟨0, by omega, rfl, rfl, by simpa using hR, World.grownBy.refl _ _⟩
  case round =>
    obtain ⟨j, hj, rfl, rfl, hr, hg⟩ := hrel
    by_cases hlt : j < n
    · have hlt' : (j : Int) < (n : Int) := by omega
      go_wp2_with (fail)
      refine (markText_any (k + j) _ (by omega) (by omega)).mono ?_
      rintro e w1 ⟨rfl, hb1⟩
      have r1 := row_below hr hb1 (Nat.le_refl _)
      have g1 := gr_below hg hb1
      obtain ⟨u1, c1⟩ := row_cell r1 (j := j) (by omega)
      have f1 := r1.frozenAt j
      have s1 := (r1.stored j (.string (markS (k + j)))).1
      have t1 := gr_set g1 (i := j) (.string (markS (k + j)))
      have e1 : ((markN n k).take j ++ L.drop j).set j (markS (k + j)) = (markN n k).take (j + 1) ++ L.drop (j + 1) := by
        rw [← markN_get hlt]; exact part_set (by rw [markN_len]; omega) (by omega)
      have s2 := s1
      rw [← List.map_set, e1] at s2
      clear s1
      go_wp2
      exact ⟨⟨j + 1, by omega, by go_num, by go_num, s2, t1⟩, by simp [intOf]; omega⟩
    · obtain rfl : j = n := by omega
      go_wp2
      go_ret
      rw [List.take_of_length_le (by rw [markN_len]; exact Nat.le_refl _), List.drop_of_length_le (by omega), List.append_nil] at hr
      exact ⟨rfl, hr, hg⟩
theorem markStringS_any (A : Option Addr) (L : List ByteArray) (c base k : Nat) (w : World) (hF : OwnS w base (.slice A L.length c) L) (h0 : 1 ≤ k) (h1 : k + L.length ≤ 4000000) :
    Calls Tryz.prog 54 #[.slice A L.length c, .int .i64 k] w fun e w' => e = .returned (.int .i64 ((k + L.length : Nat) : Int)) ∧
      OwnS w' base (.slice A L.length c) (markN L.length k) ∧ w.grownBy w' (A.map (·.block)) := by
  rcases hF.2 with ⟨hv, hz⟩ | ⟨g, cap, cur, hv, _⟩
  · have hz' : L = [] := List.eq_nil_of_length_eq_zero hz
    subst hz'
    cases hv
    go_enter Tryz.func54, Tryz.ntmps54
    go_wp2
    go_loop [1, 5] (fun q i => q = .int .i64 k ∧ i = .int .i64 0) (fun _ _ => 0)
    case atStart => exact ⟨rfl, rfl⟩
    case round =>
      obtain ⟨rfl, rfl⟩ := hrel
      go_wp2
      go_ret
      exact ⟨rfl, World.ownsRow_nil _ _ _ _, World.grownBy.refl _ _⟩
  · cases hv
    refine (markStringS_some g L.length c base k L w hF h0 h1).mono fun e w' ⟨he, h2, h3⟩ => ⟨he, ?_, h3⟩
    unfold OwnS
    rw [markN_len]
    exact h2

set_option maxHeartbeats 2000000 in
theorem heldStringS_any (A : Option Addr) (n c k : Nat) (w : World) (hF : Strs w w.heap.size A (markN n k)) (h0 : 1 ≤ k) (h1 : k + n ≤ 4000000) :
    Calls Tryz.prog 55 #[.slice A n c, .int .i64 k] w fun e w' => e = .returned (.int .i64 ((k + n : Nat) : Int)) ∧ Below w.heap.size w w' := by
  go_enter Tryz.func55, Tryz.ntmps55
  go_wp2
  go_loopw [1, 5] (fun q i wr => ∃ j : Nat, j ≤ n ∧ i = .int .i64 j ∧ q = .int .i64 ((k + j : Nat) : Int) ∧ Below w.heap.size w wr) (fun _ i _ => n - (intOf i).toNat)
  case atStart => exact ⟨0, by omega, rfl, rfl, Below.refl _ _⟩
  case round =>
    obtain ⟨j, hj, rfl, rfl, hb⟩ := hrel
    by_cases hlt : j < n
    · have hlt' : (j : Int) < (n : Int) := by omega
      obtain ⟨a, rfl, hab, a0⟩ := (hF.below hb (Nat.le_refl _)).2 j (by rw [markN_len]; exact hlt)
      rw [markN_get hlt] at a0
      obtain ⟨I, f, hI, g0, gk, gc, ge⟩ := class_grown wr
      have x0 := fun s => kept_cell (gk s) a0
      have M0 := fun W => markText_any (k + j) W (by omega) (by omega)
      clear a0
      go_wp2
      refine wp_region_kept f (by kernel_rfl) (by kernel_rfl) g0 ?_
      repeat (first
        | go_big_quiet_skip
        | (go_big_quiet_want; go_big_quiet_op; first | go_big_quiet_on | (apply Exists.intro; refine ⟨fun s => ?_, ?_⟩; (go_at_call 117; refine (M0 _).mono ?_; rintro e w4 ⟨rfl, hb4⟩; exact ⟨rfl, gc _ _ hb4⟩); go_big_quiet_on)))
      refine wpQuiet_nil ?_
      intro w5 h5
      have hb5 := ge _ h5
      clear g0 gk gc ge x0
      go_wp2
      exact ⟨⟨j + 1, by omega, by go_num, by go_num, hb.trans (hb5.mono hb.size)⟩, by simp [intOf]; omega⟩
    · obtain rfl : j = n := by omega
      go_wp2
      go_ret
      exact ⟨rfl, hb⟩

theorem infoStr : (Tryz.prog.info? 9).map (fun i => (i.zero, i.size, i.bytes)) = some (some (.string ⟨#[]⟩), 1, 16) := by kernel_rfl
theorem below_apps {B base : Nat} {w wr w1 : World} {e : TypeId} {size n : Nat} {v : Value} {xs : List Value} {o : Obj} (hb : Below B w wr) (hB : B ≤ w.heap.size) (hown : wr.ownsRow base e size v n xs) (hBb : B ≤ base) (hg : (wr.alloc o).grownBy w1 v.ownBlock) : Below B w w1 :=
  (hb.alloc (Nat.le_trans hB hb.size) o).grown hg (by have := hb.size; simp; omega) (fun k e => Nat.le_trans hBb (hown.lt k e).1)
theorem one_str (s : ByteArray) : ∀ u ∈ [Value.string s], u.oneCell' = true := by intro u hu; simp at hu; subst hu; rfl
theorem ownS_snoc {w : World} {base : Nat} {v : Value} {L : List ByteArray} {x : ByteArray} (h : w.ownsRow base 9 1 v (L.length + 1) (L.map Value.string ++ [.string x])) : OwnS w base v (L ++ [x]) := by
  unfold OwnS
  simpa using h
theorem ownS_base {w : World} {base base' : Nat} {v : Value} {L : List ByteArray} (h : OwnS w base v L) (hb : base' ≤ base) : OwnS w base' v L := by
  obtain ⟨h0, h1⟩ := h
  refine ⟨h0, ?_⟩
  rcases h1 with h1 | ⟨g, cap, cur, r1, r2, r3⟩
  · exact .inl h1
  · exact .inr ⟨g, cap, cur, r1, by omega, r3⟩
theorem ownS_some {w : World} {base : Nat} {v : Value} {L : List ByteArray} (h : OwnS w base v L) : ∃ A c, v = .slice A L.length c := by
  rcases h.2 with ⟨rfl, hz⟩ | ⟨g, cap, cur, rfl, _⟩
  · exact ⟨none, 0, by rw [hz]⟩
  · exact ⟨_, _, rfl⟩

end Go.Proofs.YtebkblmejkkhfaaGreatDoor

namespace Go.Proofs.YtebkblmejkkhfaaGreatDoor
open Go.RowKit Go.ChangeShapes Go.WideShapes
set_option linter.unusedVariables false

theorem cellsStr1 : Tryz.prog.cellsOf 9 = 1 := by kernel_rfl
set_option maxRecDepth 1000000 in
theorem strs_arg {H : Type} {enc : TypeId × Value → H} {W : World} {r : Reach} {b0 : Nat} {v : Value} {d : DataW H} {p : List MemPlace} (hval : Value.okWide Tryz.prog W r b0 50 v) (h : DataW.Trod enc Tryz.prog W 0 (fun _ => true) true 50 v d p) :
    ∃ A L c, v = .slice A L.length c ∧ Strs W W.heap.size A L ∧ ∀ s ∈ L, s.size ≤ maxLen := by
  obtain ⟨A, n, c, rfl⟩ := okWide_slice Tryz.underlying50 hval
  obtain ⟨m, hm⟩ := h
  have hm' : DataW.trod enc Tryz.prog W 0 (fun _ => true) true m 50 [.slice A n c] = some (d, p) := hm
  rcases open_strings Tryz.underlying50 Tryz.underlying9 cellsStr1 hm' with ⟨h1, _⟩ | ⟨a, len, cap, zs, h1, _, hl, hc, hz, _, hcell, hwf⟩
  · injection h1 with h1 _
    cases h1
    exact ⟨none, [], 0, rfl, ⟨by simp [maxLen], fun i h => absurd h (by simp)⟩, fun s h => absurd h (by simp)⟩
  · injection h1 with h1 _
    cases h1
    have hzl : zs.length = c := by simpa using hz
    have htl : (zs.take n).length = n := by simp; omega
    refine ⟨some a, zs.take n, c, by rw [htl], ⟨by rw [htl]; omega, fun i hi => ?_⟩, fun s hs => hwf s (List.mem_of_mem_take hs)⟩
    have hi' : i < zs.length := by rw [htl] at hi; omega
    have hc1 := hcell i hi'
    have hg : zs.getD i ByteArray.empty = (zs.take n)[i] := by rw [List.getElem_take]; simp [List.getD, hi']
    rw [hg] at hc1
    exact ⟨a, rfl, by have := World.block_lt_of_cell? W _ hc1; rw [add_blk] at this; exact this, hc1⟩
theorem Rw.strs {w : World} {lo hi n c : Nat} {A : Option Addr} {L : List ByteArray} (h : Rw w lo hi 9 1 (.slice A n c) L.length (L.map Value.string)) : Strs w w.heap.size A L := (OwnS.strs (base := lo) (c := c) (n := n) h.1).2

theorem markS_rw (A : Option Addr) (L : List ByteArray) (c lo hi k : Nat) (w : World) (h : Rw w lo hi 9 1 (.slice A L.length c) L.length (L.map Value.string)) (h0 : 1 ≤ k) (h1 : k + L.length ≤ 4000000) :
    Calls Tryz.prog 54 #[.slice A L.length c, .int .i64 k] w fun e w' => e = .returned (.int .i64 ((k + L.length : Nat) : Int)) ∧
      Rw w' lo hi 9 1 (.slice A L.length c) (markN L.length k).length ((markN L.length k).map Value.string) ∧ w.grownBy w' (A.map (·.block)) :=
  (markStringS_any A L c lo k w h.1 h0 h1).mono fun e w' ⟨he, h2, h3⟩ => ⟨he, ⟨h2, h.2⟩, h3⟩

end Go.Proofs.YtebkblmejkkhfaaGreatDoor

namespace Go.Proofs.YtebkblmejkkhfaaGreatDoor
open Go.RowKit
set_option linter.unusedVariables false
set_option maxRecDepth 1000000

abbrev slOut (v : Value) (f m : Int) (u : Value) (co : Int) : Value := .agg #[v, .int .i64 f, .int .i64 m, u, .int .i64 co]
set_option maxHeartbeats 2000000 in
theorem eqSeglogOut_same (A B : Option Addr) (M : List Fil) (c d : Nat) (f m : Int) (S T : Option Addr) (N : List ByteArray) (x y : Nat) (co : Int) (w : World) (hA : Fls w w.heap.size A M) (hB : Fls w w.heap.size B M) (hS : Strs w w.heap.size S N) (hT : Strs w w.heap.size T N) :
    Calls Tryz.prog 43 #[slOut (.slice A M.length c) f m (.slice S N.length x) co, slOut (.slice B M.length d) f m (.slice T N.length y) co] w fun e w' => e = .returned (.bool true) ∧ Below w.heap.size w w' := by
  have h0 := (Blk.fresh w 63 [.slice A M.length c, .int .i64 f, .int .i64 m, .slice S N.length x, .int .i64 co]).alloc (.cells #[.slice B M.length d, .int .i64 f, .int .i64 m, .slice T N.length y, .int .i64 co] 63)
  have h1 := Blk.fresh (w.alloc (.cells #[.slice A M.length c, .int .i64 f, .int .i64 m, .slice S N.length x, .int .i64 co] 63)) 63 [.slice B M.length d, .int .i64 f, .int .i64 m, .slice T N.length y, .int .i64 co]
  have hb0 : Below w.heap.size w ((w.alloc (.cells #[.slice A M.length c, .int .i64 f, .int .i64 m, .slice S N.length x, .int .i64 co] 63)).alloc (.cells #[.slice B M.length d, .int .i64 f, .int .i64 m, .slice T N.length y, .int .i64 co] 63)) := ((Below.refl _ w).alloc (Nat.le_refl _) _).alloc (by simp) _
  simp only [List.toArray, World.size_alloc] at h0 h1
  have HE := Lib.hid (eqSeglog_same A B M c d f m _ ((hA.below hb0 (Nat.le_refl _)).mono hb0.size) ((hB.below hb0 (Nat.le_refl _)).mono hb0.size))
  have HT := Lib.hid (fun W (h : Below w.heap.size w W) => eqStringS_same S T N x y W ((hS.below h (Nat.le_refl _)).mono h.size) ((hT.below h (Nat.le_refl _)).mono h.size))
  go_enter Tryz.func43, Tryz.ntmps43
  go_wp2_with (fail)
  refine HE.out.mono ?_
  rintro e w1 ⟨rfl, hb1⟩
  clear HE
  have g0 := h0.below hb1 h0.lt
  have g1 := h1.below hb1 h1.lt
  have hw1 := hb0.trans (hb1.mono hb0.size)
  clear h0 h1 hb0 hb1
  have k3 := g0.cell (i := 3) rfl
  have l3 := g1.cell (i := 3) rfl
  go_wp2_with (fail)
  refine (HT.out _ hw1).mono ?_
  rintro e w2 ⟨rfl, hb2⟩
  have p0 := g0.below hb2 g0.lt
  have p1 := g1.below hb2 g1.lt
  have k4 := p0.cell (i := 4) rfl
  have l4 := p1.cell (i := 4) rfl
  clear k3 l3
  go_wp2
  go_ret
  exact ⟨rfl, hw1.trans (hb2.mono hw1.size)⟩
theorem rows_apart {w : World} {lo hi lo' hi' : Nat} {u v : Value} {n p : Nat} {xs ys : List Value} (h : Rw w lo hi 53 3 u n xs) (h2 : Rw w lo' hi' 9 1 v p ys) : ∀ k, v.ownBlock = some k → u.ownBlock ≠ some k := by
  intro k hv hu
  rcases h.1.2 with ⟨he, _⟩ | ⟨g, cap, cur, he, _, hg, _⟩
  · rw [he] at hu; cases hu
  · rcases h2.1.2 with ⟨he2, _⟩ | ⟨g2, cap2, cur2, he2, _, hg2, _⟩
    · rw [he2] at hv; cases hv
    · rw [he] at hu; rw [he2] at hv
      cases hu; cases hv
      rw [hg] at hg2
      injection hg2 with hg2
      injection hg2 with _ ht _
      exact absurd ht (by decide)
set_option maxHeartbeats 2000000 in
theorem markSeglogOut_rw (A : Option Addr) (M : List Fil) (c : Nat) (B : Option Addr) (N : List ByteArray) (d lo hi k : Nat) (f m co : Int) (w : World) (h : Rw w lo hi 53 3 (.slice A M.length c) M.length (flat M)) (h2 : Rw w lo hi 9 1 (.slice B N.length d) N.length (N.map Value.string)) (hf : ∀ f ∈ M, f.fits) (h0 : 1 ≤ k) (h1 : k + 3 * M.length + N.length ≤ 4000000) :
    Calls Tryz.prog 46 #[slOut (.slice A M.length c) f m (.slice B N.length d) co, .int .i64 k] w fun e w' => e = .returned (.int .i64 ((k + 3 * M.length + N.length : Nat) : Int)) ∧
      Rw w' lo hi 53 3 (.slice A M.length c) (markL M.length k).length (flat (markL M.length k)) ∧ Rw w' lo hi 9 1 (.slice B N.length d) (markN N.length (k + 3 * M.length)).length ((markN N.length (k + 3 * M.length)).map Value.string) ∧ Chg w w' lo hi ∧ (∀ f ∈ markL M.length k, f.fits) := by
  have hb0 : Below w.heap.size w (w.alloc (.cells #[.slice A M.length c, .int .i64 f, .int .i64 m, .slice B N.length d, .int .i64 co] 63)) := (Below.refl _ w).alloc (Nat.le_refl _) _
  have k0 := Blk.fresh w 63 [.slice A M.length c, .int .i64 f, .int .i64 m, .slice B N.length d, .int .i64 co]
  have hxr := h.atA
  have hyr := h2.atA
  have hhi : ∀ k, (Value.slice A M.length c).ownBlock = some k → k < w.heap.size := fun k e => (h.1.lt k e).2
  have hap := rows_apart h h2
  have hB := h.below hb0
  have hB2 := h2.below hb0
  simp only [List.toArray] at k0
  obtain ⟨j, HJ⟩ : ∃ j, Hid (k + 3 * M.length = j) := ⟨_, Lib.hid rfl⟩
  have HM := markSeglog_rw A M c lo hi k f m _ hB hf h0 (by omega)
  rw [HJ.out] at HM
  have hj : 1 ≤ j ∧ j + N.length ≤ 4000000 := by have := HJ.out; omega
  rw [HJ.out]
  have HMH := Lib.hid HM
  clear HM h1
  go_enter Tryz.func46, Tryz.ntmps46
  go_wp2_with (fail)
  refine HMH.out.mono ?_
  rintro e w1 ⟨rfl, hX, hg, hff⟩
  have hA1 := own_blk A M.length c
  have hne : (Value.slice B N.length d).ownBlock = none ∨ (Value.slice B N.length d).ownBlock ≠ A.map (·.block) := by
    cases hv : (Value.slice B N.length d).ownBlock with
    | none => exact .inl rfl
    | some q => exact .inr fun e => hap q hv (by rw [hA1]; exact e.symm)
  have hY : Rw w1 lo hi 9 1 (.slice B N.length d) N.length (N.map Value.string) := ⟨hB2.1.kept hg hne, h2.2⟩
  have k1 : Blk w1 w.heap.size 63 [.slice A M.length c, .int .i64 f, .int .i64 m, .slice B N.length d, .int .i64 co] := k0.grown hg (fun e => by have := hhi w.heap.size (by rw [hA1]; exact e.symm); omega)
  have hc1 : Chg w w1 lo hi := Chg.after hb0 (Chg.of hg hxr)
  clear HMH
  have k3 := k1.cell (i := 3) rfl
  go_wp2_with (fail)
  refine (markS_rw B N d lo hi j w1 hY hj.1 hj.2).mono ?_
  rintro e w2 ⟨rfl, hZ, hg2⟩
  have hne2 : (Value.slice A M.length c).ownBlock = none ∨ (Value.slice A M.length c).ownBlock ≠ B.map (·.block) := by
    cases hv : (Value.slice A M.length c).ownBlock with
    | none => exact .inl rfl
    | some q => exact .inr fun e => hap q (by rw [own_blk B N.length d]; exact e.symm) hv
  have hX2 : Rw w2 lo hi 53 3 (.slice A M.length c) (markL M.length k).length (flat (markL M.length k)) := ⟨hX.1.kept hg2 hne2, hX.2⟩
  clear k3
  go_wp2
  go_ret
  exact ⟨rfl, hX2, hZ, hc1.trans (Chg.of hg2 hyr), hff⟩
set_option maxHeartbeats 2000000 in
theorem heldSeglogOut_any (A : Option Addr) (n c : Nat) (B : Option Addr) (p d k : Nat) (f m co : Int) (w : World) (hF : Fls w w.heap.size A (markL n k)) (hS : Strs w w.heap.size B (markN p (k + 3 * n))) (h0 : 1 ≤ k) (h1 : k + 3 * n + p ≤ 4000000) :
    Calls Tryz.prog 47 #[slOut (.slice A n c) f m (.slice B p d) co, .int .i64 k] w fun e w' => e = .returned (.int .i64 ((k + 3 * n + p : Nat) : Int)) ∧ Below w.heap.size w w' := by
  have hb0 : Below w.heap.size w (w.alloc (.cells #[.slice A n c, .int .i64 f, .int .i64 m, .slice B p d, .int .i64 co] 63)) := (Below.refl _ w).alloc (Nat.le_refl _) _
  have k0 := Blk.fresh w 63 [.slice A n c, .int .i64 f, .int .i64 m, .slice B p d, .int .i64 co]
  simp only [List.toArray] at k0
  obtain ⟨j, HJ⟩ : ∃ j, Hid (k + 3 * n = j) := ⟨_, Lib.hid rfl⟩
  have HM := heldSeglog_any A n c k f m _ ((hF.below hb0 (Nat.le_refl _)).mono hb0.size) h0 (by omega)
  rw [HJ.out] at HM hS ⊢
  have hj : 1 ≤ j ∧ j + p ≤ 4000000 := by have := HJ.out; omega
  have hj' : ¬ ((j : Int) < 0) := by omega
  have hjp : ¬ (((j + p : Nat) : Int) < 0) := by omega
  have HMH := Lib.hid HM
  have HT := Lib.hid (fun W (h : Below w.heap.size w W) => heldStringS_any B p d j W ((hS.below h (Nat.le_refl _)).mono h.size) hj.1 hj.2)
  clear HM h1
  go_enter Tryz.func47, Tryz.ntmps47
  go_wp2_with (fail)
  refine HMH.out.mono ?_
  rintro e w1 ⟨rfl, hb1⟩
  have hw1 := hb0.trans (hb1.mono hb0.size)
  have k1 := k0.below hb1 k0.lt
  have k3 := k1.cell (i := 3) rfl
  clear HMH
  go_wp2_with (fail)
  refine (HT.out _ hw1).mono ?_
  rintro e w2 ⟨rfl, hb2⟩
  go_wp2
  go_ret
  exact ⟨rfl, hw1.trans (hb2.mono hw1.size)⟩
end Go.Proofs.YtebkblmejkkhfaaGreatDoor
