/- What a call leaves that writes only into blocks from lo up to hi. Slices into blocks of the call's own, at any offset: strings and groups; the marks that the exact laws write into them. The size that the exact laws reckon of a topic. The copy that the exact laws make of a topic, and their comparison of two. -/
import Derived.Test.YtkimieeabmjfgaaRwkW
import Derived.Test.YtkimieeabmjfgaaCmW
import Derived.Test.YtkimieeabmjfgaaStrArgW
namespace Go.Proofs.Ytkimieeabmjfgaa
open Go.RowKit
set_option linter.unusedVariables false

structure Chg (w w' : World) (lo hi : Nat) : Prop where
  os : w'.os = w.os
  tape : w'.tape = w.tape
  output : w'.output = w.output
  size : w.heap.size ≤ w'.heap.size
  block : ∀ k, k < w.heap.size → (k < lo ∨ hi ≤ k) → w'.heap[k]? = w.heap[k]?
section
variable {w w' w2 : World} {lo hi lo' hi' : Nat}
theorem Chg.of {row : Option Nat} (h : w.grownBy w' row) (hr : ∀ k, row = some k → lo ≤ k ∧ k < hi) : Chg w w' lo hi :=
  ⟨h.os, h.tape, h.output, h.size, fun k hk ho => h.block k hk fun e => by have := hr k e.symm; omega⟩
theorem Chg.trans (h : Chg w w' lo hi) (h2 : Chg w' w2 lo hi) : Chg w w2 lo hi :=
  ⟨h2.os.trans h.os, h2.tape.trans h.tape, h2.output.trans h.output, Nat.le_trans h.size h2.size, fun k hk ho => (h2.block k (by have := h.size; omega) ho).trans (h.block k hk ho)⟩
theorem Chg.after (hb : Below w.heap.size w w') (h : Chg w' w2 lo hi) : Chg w w2 lo hi :=
  ⟨h.os.trans hb.os, h.tape.trans hb.tape, h.output.trans hb.output, Nat.le_trans hb.size h.size, fun k hk ho => (h.block k (by have := hb.size; omega) ho).trans (hb.block k hk)⟩
theorem Chg.thenB (h : Chg w w' lo hi) (hb : Below w'.heap.size w' w2) : Chg w w2 lo hi :=
  ⟨hb.os.trans h.os, hb.tape.trans h.tape, hb.output.trans h.output, Nat.le_trans h.size hb.size, fun k hk ho => (hb.block k (by have := h.size; omega)).trans (h.block k hk ho)⟩
theorem Blk.offC {g : Nat} {t : TypeId} {cs : List Value} (h : Blk w g t cs) (hc : Chg w w' lo hi) (ho : g < lo ∨ hi ≤ g) : Blk w' g t cs := (hc.block g h.lt ho).trans h
theorem Rw.farC {e : TypeId} {size n : Nat} {v : Value} {xs : List Value} (h : Rw w lo' hi' e size v n xs) (hc : Chg w w' lo hi) (ho : hi' ≤ lo ∨ hi ≤ lo') : Rw w' lo' hi' e size v n xs := by
  refine ⟨?_, h.2⟩
  cases hv : v.ownBlock with
  | none =>
    have hg : w.grownBy w v.ownBlock := ⟨rfl, rfl, rfl, Nat.le_refl _, fun _ _ _ => rfl⟩
    rcases h.1.2 with ⟨he, h0⟩ | ⟨g, cap, cur, he, _⟩
    · exact ⟨h.1.1, .inl ⟨he, h0⟩⟩
    · rw [he] at hv; cases hv
  | some k =>
    have h1 := h.at k hv
    rcases h.1.2 with ⟨he, h0⟩ | ⟨g, cap, cur, he, hb, hh, hr⟩
    · rw [he] at hv; cases hv
    · rw [he] at hv
      cases hv
      exact ⟨h.1.1, .inr ⟨g, cap, cur, he, hb, (hc.block g (h.1.lt g (by rw [he]; rfl)).2 (by simp at h1; omega)).trans hh, hr⟩⟩
theorem below_offC {B : Nat} {a : World} (h : Below B a w) (hc : Chg w w' lo hi) (ho : B ≤ lo) (hB : B ≤ a.heap.size) : Below B a w' :=
  ⟨hc.os.trans h.os, hc.tape.trans h.tape, hc.output.trans h.output, Nat.le_trans h.size hc.size, fun k hk => (hc.block k (by have := h.size; omega) (by omega)).trans (h.block k hk)⟩
end
end Go.Proofs.Ytkimieeabmjfgaa

namespace Go.Proofs.Ytkimieeabmjfgaa
open Go.RowKit
set_option linter.unusedVariables false
set_option maxRecDepth 1000000

/-- A slice with these cells, in a block between lo and hi. -/
def Sl (w : World) (lo hi : Nat) (t : TypeId) (A : Option Addr) (xs : List Value) : Prop :=
  xs = [] ∨ ∃ g off cs, A = some ⟨g, off, none⟩ ∧ (lo ≤ g ∧ g < hi) ∧ Blk w g t cs ∧ ∀ j v, xs[j]? = some v → cs[off + j]? = some v
section
variable {w w' : World} {lo hi : Nat} {t : TypeId} {A : Option Addr} {xs : List Value}
theorem Sl.below (h : Sl w lo hi t A xs) (hb : Below w.heap.size w w') : Sl w' lo hi t A xs := by
  rcases h with h | ⟨g, off, cs, h1, h2, h3, h4⟩
  · exact .inl h
  · exact .inr ⟨g, off, cs, h1, h2, h3.below hb h3.lt, h4⟩
theorem Sl.offC {lo' hi' : Nat} (h : Sl w lo hi t A xs) (hc : Chg w w' lo' hi') (ho : hi ≤ lo' ∨ hi' ≤ lo) : Sl w' lo hi t A xs := by
  rcases h with h | ⟨g, off, cs, h1, h2, h3, h4⟩
  · exact .inl h
  · exact .inr ⟨g, off, cs, h1, h2, h3.offC hc (by omega), h4⟩
theorem Sl.grown {row : Option Nat} (h : Sl w lo hi t A xs) (hc : w.grownBy w' row) (ho : ∀ a, A = some a → row ≠ some a.block) : Sl w' lo hi t A xs := by
  rcases h with h | ⟨g, off, cs, h1, h2, h3, h4⟩
  · exact .inl h
  · exact .inr ⟨g, off, cs, h1, h2, h3.grown hc (fun e => ho _ h1 e.symm), h4⟩
theorem Sl.wide {lo' hi' : Nat} (h : Sl w lo hi t A xs) (h1 : lo' ≤ lo) (h2 : hi ≤ hi') : Sl w lo' hi' t A xs := by
  rcases h with h | ⟨g, off, cs, e1, e2, h3, h4⟩
  · exact .inl h
  · exact .inr ⟨g, off, cs, e1, by omega, h3, h4⟩
end
theorem Sl.of_own {w : World} {lo n size : Nat} {t : TypeId} {v : Value} {xs : List Value} (h : w.ownsRow lo t size v n xs) {A : Option Addr} {m c : Nat} (hv : v = .slice A m c) : Sl w lo w.heap.size t A xs := by
  have hl := h.lt
  have hx := h.1
  rcases h.2 with ⟨e, hz⟩ | ⟨g, cap, cur, e, hg, hb, hn, hm, hs, ht⟩
  · exact .inl (List.eq_nil_of_length_eq_zero (by rw [hx, hz]; simp))
  · rw [hv] at e
    cases e
    refine .inr ⟨g, 0, cur.toList, rfl, ⟨hg, (hl g (by rw [hv]; rfl)).2⟩, by unfold Blk; simpa using hb, fun j u hj => ?_⟩
    have hc := World.ownsRow.cells h (g := g) (by rw [hv]; rfl) j u hj
    rw [add_none, cell_of_row w g _ cur _ (0, 0) hb] at hc
    simpa using hc
theorem Rw.sl {w : World} {lo hi n size m c : Nat} {t : TypeId} {A : Option Addr} {xs : List Value} (h : Rw w lo hi t size (.slice A m c) n xs) : Sl w lo hi t A xs := by
  rcases Sl.of_own h.1 rfl with h1 | ⟨g, off, cs, h1, h2, h3, h4⟩
  · exact .inl h1
  · exact .inr ⟨g, off, cs, h1, ⟨h2.1, h.2 g (by rw [h1]; rfl)⟩, h3, h4⟩
theorem Sl.strs {w : World} {lo hi : Nat} {A : Option Addr} {L : List ByteArray} (h : Sl w lo hi 9 A (L.map Value.string)) (hn : L.length ≤ maxLen) : Strs w w.heap.size A L := by
  refine ⟨hn, fun i hi => ?_⟩
  rcases h with h | ⟨g, off, cs, h1, h2, h3, h4⟩
  · have : L = [] := by simpa using h
    subst this; simp at hi
  · have e0 : (L.map Value.string)[i]? = some (.string L[i]) := by simp [hi]
    exact ⟨_, h1, h3.lt, by rw [add_none]; exact h3.cell (h4 _ _ e0)⟩
theorem Sl.grs {w : World} {lo hi : Nat} {A : Option Addr} {L : List Grp} (h : Sl w lo hi 68 A (gflat L)) (hn : L.length ≤ maxLen) : Grs w w.heap.size A L := by
  refine ⟨hn, fun i hi => ?_⟩
  rcases h with h | ⟨g, off, cs, h1, h2, h3, h4⟩
  · have := gflat_len L
    rw [h] at this
    simp at this
    omega
  · have e0 : (gflat L)[i * 2]? = some (.string L[i].name) := by have := gflat_get L i hi 0 (by omega); rw [Nat.add_zero] at this; rw [this]; rfl
    have e1 : (gflat L)[i * 2 + 1]? = some (.int .i64 L[i].acked) := by rw [gflat_get L i hi 1 (by omega)]; rfl
    exact ⟨_, h1, h3.lt, by rw [add_none]; exact h3.cell (h4 _ _ e0), by rw [add_none]; exact h3.cell (h4 _ _ e1)⟩
/-- What a call leaves that writes only into the block of a slice (into none where the slice is empty). -/
def Wr (w w' : World) (A : Option Addr) (xs : List Value) : Prop := ∃ row, w.grownBy w' row ∧ ∀ k, row = some k → xs ≠ [] ∧ A.map (·.block) = some k
theorem Sl.keep {w w' : World} {lo hi : Nat} {t : TypeId} {A B : Option Addr} {xs ys : List Value} (h : Sl w lo hi t A xs) (hc : Wr w w' B ys) (ho : xs ≠ [] → ys ≠ [] → A.map (·.block) ≠ B.map (·.block)) : Sl w' lo hi t A xs := by
  rcases h with h | ⟨g, off, cs, h1, h2, h3, h4⟩
  · exact .inl h
  · by_cases hx : xs = []
    · exact .inl hx
    · obtain ⟨row, hg, hr⟩ := hc
      refine .inr ⟨g, off, cs, h1, h2, h3.grown hg (fun e => ?_), h4⟩
      obtain ⟨hy, hb⟩ := hr g e.symm
      exact ho hx hy (by rw [h1, hb]; rfl)
theorem Sl.differ {w : World} {lo hi lo' hi' : Nat} {t t' : TypeId} {A B : Option Addr} {xs ys : List Value} (h : Sl w lo hi t A xs) (h' : Sl w lo' hi' t' B ys) (ht : t ≠ t') : xs ≠ [] → ys ≠ [] → A.map (·.block) ≠ B.map (·.block) := by
  intro hx hy e
  rcases h with h | ⟨g, off, cs, h1, _, h3, _⟩
  · exact hx h
  · rcases h' with h' | ⟨g', off', cs', h1', _, h3', _⟩
    · exact hy h'
    · rw [h1, h1'] at e
      simp at e
      subst e
      unfold Blk at h3 h3'
      rw [h3] at h3'
      injection h3' with h3'
      injection h3' with _ h4 _
      exact ht h4
theorem Wr.of {w w' : World} {g off : Nat} {xs : List Value} (h : w.grownBy w' (some g)) (hx : xs ≠ []) : Wr w w' (some ⟨g, off, none⟩) xs := ⟨_, h, fun k e => ⟨hx, by rw [← e]; rfl⟩⟩
theorem Wr.none {w : World} {A : Option Addr} {xs : List Value} : Wr w w A xs := ⟨.none, World.grownBy.refl _ _, fun k e => by cases e⟩
theorem Strs.offC {w w' : World} {B lo hi : Nat} {A : Option Addr} {L : List ByteArray} (h : Strs w B A L) (hc : Chg w w' lo hi) (ho : B ≤ lo) (hB : B ≤ w.heap.size) : Strs w' B A L :=
  ⟨h.1, fun i hi => by
    obtain ⟨a, e, h1, h2⟩ := h.2 i hi
    exact ⟨a, e, h1, by rw [World.cell?_of_block (a := a.add _) (hc.block _ (by rw [add_blk]; omega) (by rw [add_blk]; omega))]; exact h2⟩⟩
theorem Grs.offC {w w' : World} {B lo hi : Nat} {A : Option Addr} {L : List Grp} (h : Grs w B A L) (hc : Chg w w' lo hi) (ho : B ≤ lo) (hB : B ≤ w.heap.size) : Grs w' B A L := by
  refine ⟨h.1, fun i hi => ?_⟩
  obtain ⟨a, e, h1, h2, h3⟩ := h.2 i hi
  have hk := hc.block a.block (by omega) (by omega)
  have hk' : ∀ m, w'.cell? (a.add m) = w.cell? (a.add m) := fun m => World.cell?_of_block (a := a.add m) (by rw [add_blk]; exact hk)
  exact ⟨a, e, h1, by rw [hk']; exact h2, by rw [hk']; exact h3⟩
/-- A cell of the block that a slice lies in changes. -/
theorem set_over {cs xs : List Value} {off j : Nat} {u : Value} (h : ∀ i v, xs[i]? = some v → cs[off + i]? = some v) (hj : j < xs.length) : ∀ i v, (xs.set j u)[i]? = some v → (cs.set (off + j) u)[off + i]? = some v := by
  intro i v hi
  rw [List.getElem?_set] at hi ⊢
  by_cases e : j = i
  · subst e
    have h0 := h j xs[j] (by simp [hj])
    have hlt : off + j < cs.length := by
      rcases Nat.lt_or_ge (off + j) cs.length with h1 | h1
      · exact h1
      · rw [List.getElem?_eq_none h1] at h0; cases h0
    simp [hj] at hi
    simp [hlt, hi]
  · simp [e] at hi
    simp [e, h i v hi]

set_option maxHeartbeats 2000000 in
theorem markStringS_at (g off n c k : Nat) (L : List ByteArray) (cs : List Value) (w : World) (hl : L.length = n) (hB : Blk w g 9 cs) (hc : ∀ j v, (L.map Value.string)[j]? = some v → cs[off + j]? = some v) (h0 : 1 ≤ k) (h1 : k + n ≤ 4000000) :
    Calls Try.prog 50 #[.slice (some ⟨g, off, none⟩) n c, .int .i64 k] w fun e w' => e = .returned (.int .i64 ((k + n : Nat) : Int)) ∧
      (∃ cs', Blk w' g 9 cs' ∧ ∀ j v, ((markN n k).map Value.string)[j]? = some v → cs'[off + j]? = some v) ∧ w.grownBy w' (some g) := by
  go_enter Try.func50, Try.ntmps50
  go_wp2
  go_loopw [1, 5] (fun q i wr => ∃ j : Nat, j ≤ n ∧ i = .int .i64 j ∧ q = .int .i64 ((k + j : Nat) : Int) ∧ (∃ cs', Blk wr g 9 cs' ∧ ∀ i v, (((markN n k).take j ++ L.drop j).map Value.string)[i]? = some v → cs'[off + i]? = some v) ∧ w.grownBy wr (some g)) (fun _ i _ => n - (intOf i).toNat)
  case atStart => exact ⟨0, by omega, rfl, rfl, ⟨cs, hB, by simpa using hc⟩, World.grownBy.refl _ _⟩
  case round =>
    obtain ⟨j, hj, rfl, rfl, ⟨cs1, hr, hc1⟩, hg⟩ := hrel
    by_cases hlt : j < n
    · have hlt' : (j : Int) < (n : Int) := by omega
      go_wp2_with (fail)
      refine (markText_any (k + j) _ (by omega) (by omega)).mono ?_
      rintro e w1 ⟨rfl, hb1⟩
      have r1 := hr.below hb1 hr.lt
      have g1 := gr_below hg hb1
      have hjl : j < (((markN n k).take j ++ L.drop j).map Value.string).length := by simp [markN_len]; omega
      have c1 := r1.cell (i := off + j) (hc1 j _ (List.getElem?_eq_getElem hjl))
      have f1 := r1.froz (off + j)
      have s1 := r1.put (off + j) (.string (markS (k + j)))
      have hc2 := set_over (u := .string (markS (k + j))) hc1 hjl
      have t1 := gr_set g1 (i := off + j) (.string (markS (k + j)))
      have e1 : ((markN n k).take j ++ L.drop j).set j (markS (k + j)) = (markN n k).take (j + 1) ++ L.drop (j + 1) := by
        rw [← markN_get hlt]; exact part_set (by rw [markN_len]; omega) (by omega)
      rw [← List.map_set, e1] at hc2
      clear hc1 r1
      go_wp2
      exact ⟨⟨j + 1, by omega, by go_num, by go_num, ⟨_, s1, hc2⟩, t1⟩, by simp [intOf]; omega⟩
    · obtain rfl : j = n := by omega
      go_wp2
      go_ret
      rw [List.take_of_length_le (by rw [markN_len]; exact Nat.le_refl _), List.drop_of_length_le (by omega), List.append_nil] at hc1
      exact ⟨rfl, ⟨cs1, hr, hc1⟩, hg⟩
theorem markStringS_sl (A : Option Addr) (L : List ByteArray) (c lo hi k : Nat) (w : World) (h : Sl w lo hi 9 A (L.map Value.string)) (h0 : 1 ≤ k) (h1 : k + L.length ≤ 4000000) :
    Calls Try.prog 50 #[.slice A L.length c, .int .i64 k] w fun e w' => e = .returned (.int .i64 ((k + L.length : Nat) : Int)) ∧
      Sl w' lo hi 9 A ((markN L.length k).map Value.string) ∧ Wr w w' A (L.map Value.string) ∧ Chg w w' lo hi := by
  by_cases hx : L.map Value.string = []
  · have hz' : L = [] := by simpa using hx
    subst hz'
    go_enter Try.func50, Try.ntmps50
    go_wp2
    go_loop [1, 5] (fun q i => q = .int .i64 k ∧ i = .int .i64 0) (fun _ _ => 0)
    case atStart => exact ⟨rfl, rfl⟩
    case round =>
      obtain ⟨rfl, rfl⟩ := hrel
      go_wp2
      go_ret
      exact ⟨rfl, .inl (by simp [markN]), Wr.none, Chg.of (row := none) (World.grownBy.refl _ _) (fun k h => by cases h)⟩
  · rcases h with h | ⟨g, off, cs, rfl, h2, h3, h4⟩
    · exact absurd h hx
    · refine (markStringS_at g off L.length c k L cs w rfl h3 h4 h0 h1).mono fun e w' ⟨he, ⟨cs', q1, q2⟩, q3⟩ => ⟨he, .inr ⟨g, off, cs', rfl, h2, q1, q2⟩, Wr.of q3 hx, Chg.of q3 (fun k e => by cases e; exact h2)⟩

/-- The marks of n groups, from k on. -/
def markG (n k : Nat) : List Grp := (List.range n).map fun i => ⟨markS (k + 2 * i), ((k + 2 * i + 1 : Nat) : Int)⟩
theorem markG_len (n k : Nat) : (markG n k).length = n := by simp [markG]
theorem markG_get {n k i : Nat} (h : i < n) : (markG n k)[i]'(by rw [markG_len]; exact h) = ⟨markS (k + 2 * i), ((k + 2 * i + 1 : Nat) : Int)⟩ := by simp [markG]
set_option maxHeartbeats 2000000 in
theorem markGroupS_at (g off n c k : Nat) (L : List Grp) (cs : List Value) (w : World) (hl : L.length = n) (hB : Blk w g 68 cs) (hc : ∀ j v, (gflat L)[j]? = some v → cs[off + j]? = some v) (h0 : 1 ≤ k) (h1 : k + 2 * n ≤ 4000000) :
    Calls Try.prog 51 #[.slice (some ⟨g, off, none⟩) n c, .int .i64 k] w fun e w' => e = .returned (.int .i64 ((k + 2 * n : Nat) : Int)) ∧
      (∃ cs', Blk w' g 68 cs' ∧ ∀ j v, (gflat (markG n k))[j]? = some v → cs'[off + j]? = some v) ∧ w.grownBy w' (some g) := by
  go_enter Try.func51, Try.ntmps51
  go_wp2
  go_loopw [1, 5] (fun q i wr => ∃ j : Nat, j ≤ n ∧ i = .int .i64 j ∧ q = .int .i64 ((k + 2 * j : Nat) : Int) ∧ (∃ cs', Blk wr g 68 cs' ∧ ∀ i v, (gflat ((markG n k).take j ++ L.drop j))[i]? = some v → cs'[off + i]? = some v) ∧ w.grownBy wr (some g)) (fun _ i _ => n - (intOf i).toNat)
  case atStart => exact ⟨0, by omega, rfl, rfl, ⟨cs, hB, by simpa using hc⟩, World.grownBy.refl _ _⟩
  case round =>
    obtain ⟨j, hj, rfl, rfl, ⟨cs1, hr, hc1⟩, hg⟩ := hrel
    by_cases hlt : j < n
    · have hlt' : (j : Int) < (n : Int) := by omega
      go_wp2_with (fail)
      refine (markText_any (k + 2 * j) _ (by omega) (by omega)).mono ?_
      rintro e w1 ⟨rfl, hb1⟩
      have r1 := hr.below hb1 hr.lt
      have g1 := gr_below hg hb1
      have hjl : (gflat ((markG n k).take j ++ L.drop j)).length = n * 2 := by rw [gflat_len]; simp [markG_len]; omega
      have c1 := r1.cell (i := off + j * 2) (hc1 (j * 2) _ (List.getElem?_eq_getElem (by omega)))
      have c2 := r1.cell (i := off + (j * 2 + 1)) (hc1 (j * 2 + 1) _ (List.getElem?_eq_getElem (by omega)))
      have f1 := r1.froz (off + j * 2)
      have f2 := r1.froz (off + (j * 2 + 1))
      have s1 := r1.put (off + j * 2) (.string (markS (k + 2 * j)))
      have hc2 := set_over (j := j * 2) (u := .string (markS (k + 2 * j))) hc1 (by omega)
      have t1 := gr_set g1 (i := off + j * 2) (.string (markS (k + 2 * j)))
      have s2 := s1.put (off + (j * 2 + 1)) (.int .i64 ((k + 2 * j + 1 : Nat) : Int))
      have hc3 := set_over (j := j * 2 + 1) (u := .int .i64 ((k + 2 * j + 1 : Nat) : Int)) hc2 (by rw [List.length_set]; omega)
      have t2 := gr_set t1 (i := off + (j * 2 + 1)) (.int .i64 ((k + 2 * j + 1 : Nat) : Int))
      have e3 := gflat_set ⟨markS (k + 2 * j), ((k + 2 * j + 1 : Nat) : Int)⟩ ((markG n k).take j ++ L.drop j) j
      simp only at e3
      rw [e3, ← markG_get hlt, part_set (by rw [markG_len]; omega) (by omega)] at hc3
      have hv : ((k + 2 * j + 1 : Nat) : Int) = (k : Int) + 2 * (j : Int) + 1 := by omega
      rw [hv] at s2 t2
      rw [show off + (j * 2 + 1) = off + j * 2 + 1 by omega] at s2 t2 c2 f2 hc3
      have hc4 : ∀ i v, (gflat ((markG n k).take (j + 1) ++ L.drop (j + 1)))[i]? = some v → ((cs1.set (off + j * 2) (.string (markS (k + 2 * j)))).set (off + j * 2 + 1) (.int .i64 ((k : Int) + 2 * (j : Int) + 1)))[off + i]? = some v := by
        rw [← hv]; exact hc3
      clear hc1 hc2 hc3 r1 e3 s1 t1
      go_wp2
      exact ⟨⟨j + 1, by omega, by go_num, by go_num, ⟨_, s2, hc4⟩, t2⟩, by simp [intOf]; omega⟩
    · obtain rfl : j = n := by omega
      go_wp2
      go_ret
      rw [List.take_of_length_le (by rw [markG_len]; exact Nat.le_refl _), List.drop_of_length_le (by omega), List.append_nil] at hc1
      exact ⟨rfl, ⟨cs1, hr, hc1⟩, hg⟩
theorem markGroupS_sl (A : Option Addr) (L : List Grp) (c lo hi k : Nat) (w : World) (h : Sl w lo hi 68 A (gflat L)) (h0 : 1 ≤ k) (h1 : k + 2 * L.length ≤ 4000000) :
    Calls Try.prog 51 #[.slice A L.length c, .int .i64 k] w fun e w' => e = .returned (.int .i64 ((k + 2 * L.length : Nat) : Int)) ∧
      Sl w' lo hi 68 A (gflat (markG L.length k)) ∧ Wr w w' A (gflat L) ∧ Chg w w' lo hi := by
  by_cases hx : gflat L = []
  · have hz' : L = [] := by
      have := gflat_len L
      rw [hx] at this
      exact List.eq_nil_of_length_eq_zero (by simp at this; omega)
    subst hz'
    go_enter Try.func51, Try.ntmps51
    go_wp2
    go_loop [1, 5] (fun q i => q = .int .i64 k ∧ i = .int .i64 0) (fun _ _ => 0)
    case atStart => exact ⟨rfl, rfl⟩
    case round =>
      obtain ⟨rfl, rfl⟩ := hrel
      go_wp2
      go_ret
      exact ⟨rfl, .inl (by simp [markG, gflat]), Wr.none, Chg.of (row := none) (World.grownBy.refl _ _) (fun k h => by cases h)⟩
  · rcases h with h | ⟨g, off, cs, rfl, h2, h3, h4⟩
    · exact absurd h hx
    · refine (markGroupS_at g off L.length c k L cs w rfl h3 h4 h0 h1).mono fun e w' ⟨he, ⟨cs', q1, q2⟩, q3⟩ => ⟨he, .inr ⟨g, off, cs', rfl, h2, q1, q2⟩, Wr.of q3 hx, Chg.of q3 (fun k e => by cases e; exact h2)⟩
set_option maxHeartbeats 2000000 in
theorem heldGroupS_any (A : Option Addr) (n c k : Nat) (w : World) (hF : Grs w w.heap.size A (markG n k)) (h0 : 1 ≤ k) (h1 : k + 2 * n ≤ 4000000) :
    Calls Try.prog 74 #[.slice A n c, .int .i64 k] w fun e w' => e = .returned (.int .i64 ((k + 2 * n : Nat) : Int)) ∧ Below w.heap.size w w' := by
  go_enter Try.func74, Try.ntmps74
  go_wp2
  go_loopw [1, 5] (fun q i wr => ∃ j : Nat, j ≤ n ∧ i = .int .i64 j ∧ q = .int .i64 ((k + 2 * j : Nat) : Int) ∧ Below w.heap.size w wr) (fun _ i _ => n - (intOf i).toNat)
  case atStart => exact ⟨0, by omega, rfl, rfl, Below.refl _ _⟩
  case round =>
    obtain ⟨j, hj, rfl, rfl, hb⟩ := hrel
    by_cases hlt : j < n
    · have hlt' : (j : Int) < (n : Int) := by omega
      obtain ⟨a, rfl, hab, a0, a1⟩ := (hF.below hb (Nat.le_refl _)).at j (by rw [markG_len]; exact hlt)
      rw [markG_get hlt] at a0 a1
      simp only at a0 a1
      obtain ⟨I, f, hI, g0, gk, gc, ge⟩ := class_grown wr
      have x0 := fun s => kept_cell (gk s) a0
      have M0 := fun W => markText_any (k + 2 * j) W (by omega) (by omega)
      clear a0
      go_wp2
      refine wp_region_kept f (by kernel_rfl) (by kernel_rfl) g0 ?_
      repeat (first
        | go_big_quiet_skip
        | (go_big_quiet_want; go_big_quiet_op; first | go_big_quiet_on | (apply Exists.intro; refine ⟨fun s => ?_, ?_⟩; (go_at_call 94; refine (M0 _).mono ?_; rintro e w4 ⟨rfl, hb4⟩; exact ⟨rfl, gc _ _ hb4⟩); go_big_quiet_on)))
      refine wpQuiet_nil ?_
      intro w5 h5
      have hb5 := ge _ h5
      have a1' := kept_cell hb5 a1
      have hv : ((k + 2 * j + 1 : Nat) : Int) = (k : Int) + 2 * (j : Int) + 1 := by omega
      rw [hv] at a1'
      clear a1 g0 gk gc ge x0
      go_wp2
      exact ⟨⟨j + 1, by omega, by go_num, by go_num, hb.trans (hb5.mono hb.size)⟩, by simp [intOf]; omega⟩
    · obtain rfl : j = n := by omega
      go_wp2
      go_ret
      exact ⟨rfl, hb⟩
end Go.Proofs.Ytkimieeabmjfgaa

namespace Go.Proofs.Ytkimieeabmjfgaa
open Go.RowKit
set_option linter.unusedVariables false
set_option maxRecDepth 1000000

/-- A topic of no great size. -/
def Tpc.small (t : Tpc) : Prop := t.name.size ≤ 1048576 ∧ (t.held.length ≤ 1048576 ∧ ∀ i (h : i < t.held.length), t.held[i].size ≤ 1048576) ∧ (t.groups.length ≤ 1048576 ∧ ∀ i (h : i < t.groups.length), t.groups[i].name.size ≤ 1048576)

def szG (f : Grp) (left : Int) : Int := if left - f.name.size < 0 then -1 else left - f.name.size
theorem szGroup_any (f : Grp) (left : Int) (w : World) (hf : f.fits) (h0 : 0 ≤ left) (h1 : left ≤ 1048576) :
    Calls Try.prog 81 #[f.val, .int .i64 left] w fun e w' => e = .returned (.int .i64 (szG f left)) ∧ Below w.heap.size w w' := by
  obtain ⟨s0, k⟩ := f
  obtain ⟨q0, q2, q3⟩ := hf
  simp only at q0 q2 q3
  unfold maxLen at q0
  unfold Grp.val szG
  simp only
  by_cases hA : left - s0.size < 0
  · rw [if_pos hA]
    go_enter Try.func81, Try.ntmps81
    go_wp2
    go_ret
    exact ⟨rfl, (Below.refl _ _).alloc (Nat.le_refl _) _⟩
  · rw [if_neg hA]
    go_enter Try.func81, Try.ntmps81
    go_wp2
    go_ret
    exact ⟨rfl, (Below.refl _ _).alloc (Nat.le_refl _) _⟩
theorem szG_lo (f : Grp) (left : Int) (h : 0 ≤ left) : -1 ≤ szG f left ∧ szG f left ≤ left := by unfold szG; split <;> omega
theorem szG_ok {f : Grp} {left : Int} (h1 : left ≤ 1048576) (h : 0 ≤ szG f left) : f.name.size ≤ 1048576 := by
  unfold szG at h
  split at h <;> omega

set_option maxHeartbeats 1000000 in
theorem szGroupS_left (A : Option Addr) (L : List Grp) (c : Nat) (left : Int) (w : World) (hL : Grs w w.heap.size A L) (hf : ∀ g ∈ L, g.fits) (l0 : 0 ≤ left) (l1 : left ≤ 1048576) :
    Calls Try.prog 38 #[.slice A L.length c, .int .i64 left] w fun e w' => ∃ r : Int, e = .returned (.int .i64 r) ∧ -1 ≤ r ∧ r ≤ 1048576 ∧ (0 ≤ r → L.length ≤ 1048576 ∧ ∀ i (h : i < L.length), L[i].name.size ≤ 1048576) ∧ Below w.heap.size w w' := by
  have hn := hL.1
  unfold maxLen at hn
  by_cases hbig : left - L.length < 0
  · go_enter Try.func38, Try.ntmps38
    go_wp2
    go_ret
    exact ⟨-1, rfl, by omega, by omega, fun h => by omega, Below.refl _ _⟩
  · have hn2 : L.length ≤ 1048576 := by omega
    have hbig' : ¬ left - (L.length : Int) < 0 := hbig
    go_enter Try.func38, Try.ntmps38
    go_wp2
    go_loopw [1, 5] (fun l i wr => ∃ (k : Nat) (left : Int), k ≤ L.length ∧ i = .int .i64 k ∧ l = .int .i64 left ∧ 0 ≤ left ∧ left ≤ 1048576 ∧ (∀ j (h : j < L.length), j < k → L[j].name.size ≤ 1048576) ∧ Below w.heap.size w wr) (fun _ i _ => L.length - (intOf i).toNat)
    case atStart => exact ⟨0, _, by omega, rfl, rfl, by omega, by omega, fun j _ h => by omega, Below.refl _ _⟩
    case round =>
      obtain ⟨k, lf, hk, rfl, rfl, l0, l1, hS, hb⟩ := hrel
      by_cases hlt : k < L.length
      · obtain ⟨a, rfl, hab, c0, c1⟩ := (hL.below hb (Nat.le_refl _)).at k hlt
        have hsz := szG_lo L[k] lf l0
        have hff := hf _ (List.getElem_mem hlt)
        go_wp2_with (go_at_call 81; refine (szGroup_any L[k] lf wr hff l0 l1).mono ?_; rintro e w1 ⟨rfl, hb1⟩)
        · go_ret
          exact ⟨-1, rfl, by omega, by omega, fun h => by omega, hb.trans (hb1.mono hb.size)⟩
        · have h0 : 0 ≤ szG L[k] lf := by omega
          refine ⟨⟨k + 1, _, by omega, by go_num, rfl, h0, by omega, fun j hj hjk => ?_, hb.trans (hb1.mono hb.size)⟩, by simp [intOf]; omega⟩
          by_cases e : j = k
          · subst e; exact szG_ok l1 h0
          · exact hS j hj (by omega)
      · obtain rfl : k = L.length := by omega
        go_wp2
        go_ret
        exact ⟨lf, rfl, by omega, l1, fun _ => ⟨hn2, fun i h => hS i h h⟩, hb⟩
set_option maxHeartbeats 1000000 in
theorem szStringS_left (A : Option Addr) (L : List ByteArray) (c : Nat) (left : Int) (w : World) (hL : Strs w w.heap.size A L) (hf : ∀ s ∈ L, s.size ≤ maxLen) (l0 : 0 ≤ left) (l1 : left ≤ 1048576) :
    Calls Try.prog 37 #[.slice A L.length c, .int .i64 left] w fun e w' => ∃ r : Int, e = .returned (.int .i64 r) ∧ -1 ≤ r ∧ r ≤ 1048576 ∧ (0 ≤ r → L.length ≤ 1048576 ∧ ∀ i (h : i < L.length), L[i].size ≤ 1048576) ∧ Below w.heap.size w w' := by
  have hn := hL.1
  unfold maxLen at hn hf
  by_cases hbig : left - L.length < 0
  · go_enter Try.func37, Try.ntmps37
    go_wp2
    go_ret
    exact ⟨-1, rfl, by omega, by omega, fun h => by omega, Below.refl _ _⟩
  · have hn2 : L.length ≤ 1048576 := by omega
    have hbig' : ¬ left - (L.length : Int) < 0 := hbig
    go_enter Try.func37, Try.ntmps37
    go_wp2
    go_loopw [1, 5] (fun l i wr => ∃ (k : Nat) (left : Int), k ≤ L.length ∧ i = .int .i64 k ∧ l = .int .i64 left ∧ 0 ≤ left ∧ left ≤ 1048576 ∧ (∀ j (h : j < L.length), j < k → L[j].size ≤ 1048576) ∧ Below w.heap.size w wr) (fun _ i _ => L.length - (intOf i).toNat)
    case atStart => exact ⟨0, _, by omega, rfl, rfl, by omega, by omega, fun j _ h => by omega, Below.refl _ _⟩
    case round =>
      obtain ⟨k, lf, hk, rfl, rfl, l0, l1, hS, hb⟩ := hrel
      by_cases hlt : k < L.length
      · obtain ⟨a, rfl, hab, c0⟩ := (hL.below hb (Nat.le_refl _)).2 k hlt
        have hsz := hf _ (List.getElem_mem hlt)
        have hlt' : (k : Int) < (L.length : Int) := by omega
        by_cases h0 : 0 ≤ lf - L[k].size
        · go_wp2
          refine ⟨⟨k + 1, _, by omega, by go_num, rfl, h0, by omega, fun j hj hjk => ?_, hb⟩, by simp [intOf]; omega⟩
          by_cases e : j = k
          · subst e; omega
          · exact hS j hj (by omega)
        · go_wp2
          go_ret
          exact ⟨-1, rfl, by omega, by omega, fun h => by omega, hb⟩
      · obtain rfl : k = L.length := by omega
        go_wp2
        go_ret
        exact ⟨lf, rfl, by omega, l1, fun _ => ⟨hn2, fun i h => hS i h h⟩, hb⟩

set_option maxHeartbeats 2000000 in
theorem szTopic_any (t : Tpc) (A : Option Addr) (c : Nat) (B : Option Addr) (d : Nat) (w : World) (hf : t.fits) (hA : Strs w w.heap.size A t.held) (hB : Grs w w.heap.size B t.groups) :
    Calls Try.prog 10 #[topV t.name t.base (.slice A t.held.length c) (.slice B t.groups.length d), .int .i64 1048576] w fun e w' => ∃ r : Int, e = .returned (.int .i64 r) ∧ -1 ≤ r ∧ r ≤ 1048576 ∧ (0 ≤ r → t.small) ∧ Below w.heap.size w w' := by
  obtain ⟨nm, bs, H, G⟩ := t
  obtain ⟨f0, f1, f2, f3⟩ := hf
  simp only at f0 f1 f2 f3 hA hB ⊢
  unfold maxLen at f0
  have hb0 : Below w.heap.size w (w.alloc (.cells #[.string nm, .int .i64 bs, .slice A H.length c, .slice B G.length d] 25)) := (Below.refl _ _).alloc (Nat.le_refl _) _
  have k0 := Blk.fresh w 25 [.string nm, .int .i64 bs, .slice A H.length c, .slice B G.length d]
  simp only [List.toArray] at k0
  by_cases hn : (1048576 : Int) - nm.size < 0
  · go_enter Try.func10, Try.ntmps10
    go_wp2
    go_ret
    exact ⟨-1, rfl, by omega, by omega, fun h => by omega, hb0⟩
  have hn' : ¬ (1048576 : Int) - (nm.size : Int) < 0 := hn
  have SS := Lib.hid (fun W (h : Below w.heap.size w W) => szStringS_left A H c (1048576 - nm.size) W (hA.on h) f2 (by omega) (by omega))
  go_enter Try.func10, Try.ntmps10
  go_wp2_with (fail)
  generalize w.alloc (.cells #[.string nm, .int .i64 bs, .slice A H.length c, .slice B G.length d] 25) = v0 at hb0 k0 ⊢
  refine (SS.out _ hb0).mono ?_
  rintro e w1 ⟨r, rfl, r0, r1, hS, hb1⟩
  have hw1 := hb0.trans (hb1.mono hb0.size)
  have k1 := k0.below hb1 k0.lt
  clear k0 hb0 hb1
  by_cases hr : r < 0
  · go_wp2
    go_ret
    exact ⟨-1, rfl, by omega, by omega, fun h => by omega, hw1⟩
  have c3 := k1.cell (i := 3) rfl
  have SG := Lib.hid (szGroupS_left B G d r w1 (hB.on hw1) f3 (by omega) (by omega))
  have hr' : ¬ r < 0 := hr
  go_wp2_with (fail)
  refine SG.out.mono ?_
  rintro e w2 ⟨q, rfl, q0, q1, hT, hb2⟩
  have hw2 := hw1.trans (hb2.mono hw1.size)
  by_cases hq : q < 0
  · go_wp2
    go_ret
    exact ⟨-1, rfl, by omega, by omega, fun h => by omega, hw2⟩
  have hq' : ¬ q < 0 := hq
  go_wp2
  go_ret
  exact ⟨q, rfl, q0, q1, fun h => ⟨by show nm.size ≤ 1048576; omega, hS (by omega), hT h⟩, hw2⟩
end Go.Proofs.Ytkimieeabmjfgaa

namespace Go.Proofs.Ytkimieeabmjfgaa
open Go.RowKit
set_option linter.unusedVariables false
set_option maxRecDepth 1000000

theorem toGroup_any (f : Grp) (w : World) : Calls Try.prog 84 #[f.val] w fun e w' => e = .returned f.val ∧ Below w.heap.size w w' := by
  obtain ⟨s0, k⟩ := f
  unfold Grp.val
  simp only
  go_enter Try.func84, Try.ntmps84
  go_wp2
  refine bodyPost_ret (v := .agg #[.string s0, .int .i64 k]) (by simp [results, Try.results84, go_sem]) rfl ⟨rfl, ?_⟩
  exact (((Below.refl _ _).alloc (Nat.le_refl _) _).alloc (by simp) _).alloc (by simp; omega) _

set_option maxHeartbeats 1000000 in
theorem toGroupS_any (A : Option Addr) (L : List Grp) (c : Nat) (w : World) (hL : Grs w w.heap.size A L) (hn : L.length ≤ 1048576) :
    Calls Try.prog 44 #[.slice A L.length c] w fun e w' => ∃ g c', e = .returned (.slice (some ⟨g, 0, none⟩) L.length c') ∧ OwnG w' w.heap.size (.slice (some ⟨g, 0, none⟩) L.length c') L ∧ Below w.heap.size w w' := by
  obtain ⟨i0, hi, hz0, hz1, hz2⟩ := info_parts infoGrp
  have hn1 : (L.length : Int) ≤ 1048576 := by omega
  go_enter Try.func44, Try.ntmps44
  go_wp2_with (at_make; refine wpList_make_full _ rfl _ _ 27 rfl w.heap.size 68 i0 (.agg #[.string ⟨#[]⟩, .int .i64 0]) 2 Try.underlying27 hi hz0 hz1 _ _ _ _ L.length rfl rfl rfl rfl (by rw [hz2]; omega) (by unfold maxLen; omega) (Nat.le_refl _) ?_; intro w1 hrow hg1)
  have hrow' : w1.ownsRow w.heap.size 68 2 (.slice (some ⟨w.heap.size, 0, none⟩) L.length L.length) L.length (gflat (List.replicate L.length zeroGrp)) := by
    rw [← gflat_made]; exact hrow
  clear hrow
  have hb0 : Below w.heap.size w w1 := ⟨hg1.os, hg1.tape, hg1.output, hg1.size, fun k hk => hg1.block k hk (by simp)⟩
  go_loopw [4] (fun i wr => ∃ k : Nat, k ≤ L.length ∧ i = .int .i64 k ∧ wr.ownsRow w.heap.size 68 2 (.slice (some ⟨w.heap.size, 0, none⟩) L.length L.length) L.length (gflat (L.take k ++ List.replicate (L.length - k) zeroGrp)) ∧ Below w.heap.size w wr) (fun i _ => L.length - (intOf i).toNat)
  case atStart => exact ⟨0, by omega, rfl, by simpa using hrow', hb0⟩
  case round =>
    obtain ⟨k, hk, rfl, hr, hb⟩ := hrel
    by_cases hlt : k < L.length
    · obtain ⟨a, rfl, hab, c0, c1⟩ := (hL.below hb (Nat.le_refl _)).at k hlt
      go_wp2_with (go_at_call 84; refine (toGroup_any L[k] wr).mono ?_; rintro e w2 ⟨rfl, hb2⟩; unfold Grp.val; have hr2 := row_below hr hb2 (Nat.le_refl _); obtain ⟨d0, d1, f0, f1⟩ := row_grp hr2 (k := k) (by simp; omega))
      have hp := row_gput hr2 k L[k]
      rw [take_put L zeroGrp hlt] at hp
      refine ⟨⟨k + 1, by omega, by go_num, hp, ?_⟩, by simp [intOf]; omega⟩
      exact ((hb.trans (hb2.mono hb.size)).setCell (Nat.le_refl _) _).setCell (Nat.le_refl _) _
    · obtain rfl : k = L.length := by omega
      go_wp2
      go_ret
      rw [List.take_of_length_le (Nat.le_refl _), Nat.sub_self, List.replicate_zero, List.append_nil] at hr
      exact ⟨_, _, rfl, hr, hb⟩

theorem eqGroup_same (f : Grp) (w : World) : Calls Try.prog 93 #[f.val, f.val] w fun e w' => e = .returned (.bool true) ∧ Below w.heap.size w w' := by
  obtain ⟨s0, k⟩ := f
  unfold Grp.val
  simp only
  go_enter Try.func93, Try.ntmps93
  go_wp2
  go_ret
  exact ⟨rfl, ((Below.refl _ _).alloc (Nat.le_refl _) _).alloc (by simp) _⟩
set_option maxHeartbeats 1000000 in
theorem eqGroupS_same (A B : Option Addr) (L : List Grp) (c d : Nat) (w : World) (hA : Grs w w.heap.size A L) (hB : Grs w w.heap.size B L) :
    Calls Try.prog 49 #[.slice A L.length c, .slice B L.length d] w fun e w' => e = .returned (.bool true) ∧ Below w.heap.size w w' := by
  have hn := hA.1
  unfold maxLen at hn
  go_enter Try.func49, Try.ntmps49
  go_wp2
  go_loopw [5] (fun i wr => ∃ k : Nat, k ≤ L.length ∧ i = .int .i64 k ∧ Below w.heap.size w wr) (fun i _ => L.length - (intOf i).toNat)
  case atStart => exact ⟨0, by omega, rfl, Below.refl _ _⟩
  case round =>
    obtain ⟨k, hk, rfl, hb⟩ := hrel
    by_cases hlt : k < L.length
    · obtain ⟨a, rfl, hab, a0, a1⟩ := (hA.below hb (Nat.le_refl _)).at k hlt
      obtain ⟨b, rfl, hbb, b0, b1⟩ := (hB.below hb (Nat.le_refl _)).at k hlt
      obtain ⟨I, f, hI, g0, gk, gc, ge⟩ := class_grown wr
      have x0 := fun s => kept_cell (gk s) a0
      have x1 := fun s => kept_cell (gk s) a1
      have y0 := fun s => kept_cell (gk s) b0
      have y1 := fun s => kept_cell (gk s) b1
      have EQ := eqGroup_same L[k]
      unfold Grp.val at EQ
      have hlt' : (k : Int) < (L.length : Int) := by omega
      clear a0 a1 b0 b1
      go_wp2
      refine wp_region_kept f (by kernel_rfl) (by kernel_rfl) g0 ?_
      repeat (first
        | go_big_quiet_skip
        | (go_big_quiet_want; go_big_quiet_op; first | go_big_quiet_on | (apply Exists.intro; refine ⟨fun s => ?_, ?_⟩; (go_at_call 93; refine (EQ _).mono ?_; rintro e w4 ⟨rfl, hb4⟩; exact ⟨rfl, gc _ _ hb4⟩); go_big_quiet_on)))
      refine wpQuiet_nil ?_
      intro w5 h5
      have hb5 := ge _ h5
      go_wp2
      exact ⟨⟨k + 1, by omega, by go_num, hb.trans (hb5.mono hb.size)⟩, by simp [intOf]; omega⟩
    · obtain rfl : k = L.length := by omega
      go_wp2
      go_ret
      exact ⟨rfl, hb⟩
set_option maxHeartbeats 2000000 in
theorem eqTopic_same (nm : ByteArray) (bs : Int) (A B C D : Option Addr) (H : List ByteArray) (G : List Grp) (a b c d : Nat) (w : World) (hA : Strs w w.heap.size A H) (hC : Strs w w.heap.size C H) (hB : Grs w w.heap.size B G) (hD : Grs w w.heap.size D G) :
    Calls Try.prog 15 #[topV nm bs (.slice A H.length a) (.slice B G.length b), topV nm bs (.slice C H.length c) (.slice D G.length d)] w fun e w' => e = .returned (.bool true) ∧ Below w.heap.size w w' := by
  have h0 := (Blk.fresh w 29 [.string nm, .int .i64 bs, .slice A H.length a, .slice B G.length b]).alloc (.cells #[.string nm, .int .i64 bs, .slice C H.length c, .slice D G.length d] 29)
  have h1 := Blk.fresh (w.alloc (.cells #[.string nm, .int .i64 bs, .slice A H.length a, .slice B G.length b] 29)) 29 [.string nm, .int .i64 bs, .slice C H.length c, .slice D G.length d]
  have hb0 : Below w.heap.size w ((w.alloc (.cells #[.string nm, .int .i64 bs, .slice A H.length a, .slice B G.length b] 29)).alloc (.cells #[.string nm, .int .i64 bs, .slice C H.length c, .slice D G.length d] 29)) := ((Below.refl _ w).alloc (Nat.le_refl _) _).alloc (by simp) _
  simp only [List.toArray, World.size_alloc] at h0 h1
  have HE := Lib.hid (fun W (h : Below w.heap.size w W) => eqStringS_same A C H a c W (hA.on h) (hC.on h))
  have HG := Lib.hid (fun W (h : Below w.heap.size w W) => eqGroupS_same B D G b d W (hB.on h) (hD.on h))
  go_enter Try.func15, Try.ntmps15
  go_wp2_with (fail)
  refine (HE.out _ hb0).mono ?_
  rintro e w1 ⟨rfl, hb1⟩
  have g0 := h0.below hb1 h0.lt
  have g1 := h1.below hb1 h1.lt
  have hw1 := hb0.trans (hb1.mono hb0.size)
  clear h0 h1 hb0 hb1
  have k3 := g0.cell (i := 3) rfl
  have l3 := g1.cell (i := 3) rfl
  go_wp2_with (fail)
  refine (HG.out _ hw1).mono ?_
  rintro e w2 ⟨rfl, hb2⟩
  clear k3 l3
  go_wp2
  go_ret
  exact ⟨rfl, hw1.trans (hb2.mono hw1.size)⟩
set_option maxHeartbeats 2000000 in
theorem toTopic_any (t : Tpc) (A : Option Addr) (c : Nat) (B : Option Addr) (d : Nat) (w : World) (hs : t.small) (hA : Strs w w.heap.size A t.held) (hB : Grs w w.heap.size B t.groups) :
    Calls Try.prog 12 #[topV t.name t.base (.slice A t.held.length c) (.slice B t.groups.length d)] w fun e w' => ∃ g c' h d', e = .returned (topV t.name t.base (.slice (some ⟨g, 0, none⟩) t.held.length c') (.slice (some ⟨h, 0, none⟩) t.groups.length d')) ∧
      Rw w' w.heap.size w'.heap.size 9 1 (.slice (some ⟨g, 0, none⟩) t.held.length c') t.held.length (t.held.map Value.string) ∧ Rw w' w.heap.size w'.heap.size 68 2 (.slice (some ⟨h, 0, none⟩) t.groups.length d') t.groups.length (gflat t.groups) ∧ g < h ∧ Below w.heap.size w w' := by
  obtain ⟨nm, bs, H, G⟩ := t
  obtain ⟨s0, s1, s2⟩ := hs
  simp only at s0 s1 s2 hA hB ⊢
  have hb0 : Below w.heap.size w (((w.alloc (.cells #[.string nm, .int .i64 bs, .slice A H.length c, .slice B G.length d] 25)).alloc (.cells #[.string ⟨#[]⟩, .int .i64 0, .slice none 0 0, .slice none 0 0] 29)).alloc (.cells #[.string nm, .int .i64 bs, .slice none 0 0, .slice none 0 0] 29)) := (((Below.refl _ _).alloc (Nat.le_refl _) _).alloc (by simp) _).alloc (by simp; omega) _
  have k0 := ((Blk.fresh w 25 [.string nm, .int .i64 bs, .slice A H.length c, .slice B G.length d]).alloc (.cells #[.string ⟨#[]⟩, .int .i64 0, .slice none 0 0, .slice none 0 0] 29)).alloc (.cells #[.string nm, .int .i64 bs, .slice none 0 0, .slice none 0 0] 29)
  have k1 := (Blk.fresh (w.alloc (.cells #[.string nm, .int .i64 bs, .slice A H.length c, .slice B G.length d] 25)) 29 [.string ⟨#[]⟩, .int .i64 0, .slice none 0 0, .slice none 0 0]).alloc (.cells #[.string nm, .int .i64 bs, .slice none 0 0, .slice none 0 0] 29)
  have k2 := Blk.fresh ((w.alloc (.cells #[.string nm, .int .i64 bs, .slice A H.length c, .slice B G.length d] 25)).alloc (.cells #[.string ⟨#[]⟩, .int .i64 0, .slice none 0 0, .slice none 0 0] 29)) 29 [.string nm, .int .i64 bs, .slice none 0 0, .slice none 0 0]
  simp only [World.size_alloc] at k0 k1 k2
  replace k0 : Blk (((w.alloc (.cells #[.string nm, .int .i64 bs, .slice A H.length c, .slice B G.length d] 25)).alloc (.cells #[.string ⟨#[]⟩, .int .i64 0, .slice none 0 0, .slice none 0 0] 29)).alloc (.cells #[.string nm, .int .i64 bs, .slice none 0 0, .slice none 0 0] 29)) w.heap.size 25 [.string nm, .int .i64 bs, .slice A H.length c, .slice B G.length d] := k0
  replace k1 : Blk (((w.alloc (.cells #[.string nm, .int .i64 bs, .slice A H.length c, .slice B G.length d] 25)).alloc (.cells #[.string ⟨#[]⟩, .int .i64 0, .slice none 0 0, .slice none 0 0] 29)).alloc (.cells #[.string nm, .int .i64 bs, .slice none 0 0, .slice none 0 0] 29)) (w.heap.size + 1) 29 [.string ⟨#[]⟩, .int .i64 0, .slice none 0 0, .slice none 0 0] := k1
  replace k2 : Blk (((w.alloc (.cells #[.string nm, .int .i64 bs, .slice A H.length c, .slice B G.length d] 25)).alloc (.cells #[.string ⟨#[]⟩, .int .i64 0, .slice none 0 0, .slice none 0 0] 29)).alloc (.cells #[.string nm, .int .i64 bs, .slice none 0 0, .slice none 0 0] 29)) (w.heap.size + 1 + 1) 29 [.string nm, .int .i64 bs, .slice none 0 0, .slice none 0 0] := k2
  go_enter Try.func12, Try.ntmps12
  go_wp2_with (fail)
  generalize ((w.alloc (.cells #[.string nm, .int .i64 bs, .slice A H.length c, .slice B G.length d] 25)).alloc (.cells #[.string ⟨#[]⟩, .int .i64 0, .slice none 0 0, .slice none 0 0] 29)).alloc (.cells #[.string nm, .int .i64 bs, .slice none 0 0, .slice none 0 0] 29) = v0 at hb0 k0 k1 k2 ⊢
  refine (toStringS_any A H c v0 (hA.on hb0) s1.1).mono ?_
  rintro e w1 ⟨g, c', rfl, hr1, hb1⟩
  have hg1 : v0.heap.size ≤ g ∧ g < w1.heap.size := hr1.at g rfl
  have z0 := k2.lt
  have hw1 := hb0.trans (hb1.mono hb0.size)
  replace k0 := k0.below hb1 k0.lt
  replace k1 := k1.below hb1 k1.lt
  replace k2 := k2.below hb1 k2.lt
  have c0 := k2.cell (i := 2) rfl
  have f0 := k2.froz 2
  have d0 := k0.cell (i := 3) rfl
  have q2 := k2.put 2 (.slice (some ⟨g, 0, none⟩) H.length c')
  have q1 := k1.far (p := ⟨w.heap.size + 1 + 1, 2, none⟩) (by simp) (.slice (some ⟨g, 0, none⟩) H.length c')
  have q0 := k0.far (p := ⟨w.heap.size + 1 + 1, 2, none⟩) (by simp; omega) (.slice (some ⟨g, 0, none⟩) H.length c')
  have hbq := hw1.setCell (p := ⟨w.heap.size + 1 + 1, 2, none⟩) (by simp; omega) (.slice (some ⟨g, 0, none⟩) H.length c')
  have hrq : (w1.setCell ⟨w.heap.size + 1 + 1, 2, none⟩ (.slice (some ⟨g, 0, none⟩) H.length c')).ownsRow v0.heap.size 9 1 (.slice (some ⟨g, 0, none⟩) H.length c') H.length (H.map Value.string) := row_far hr1.1 (by simp; omega) _
  have e0 := q0.cell (i := 3) rfl
  have zq : (w1.setCell ⟨w.heap.size + 1 + 1, 2, none⟩ (.slice (some ⟨g, 0, none⟩) H.length c')).heap.size = w1.heap.size := by simp [World.setCell]
  go_wp2_with (fail)
  clear c0 f0 d0 e0 k0 k1 k2 hr1
  generalize w1.setCell ⟨w.heap.size + 1 + 1, 2, none⟩ (.slice (some ⟨g, 0, none⟩) H.length c') = v1 at q0 q1 q2 hbq hrq zq ⊢
  refine (toGroupS_any B G d v1 (hB.on hbq) s2.1).mono ?_
  rintro e w2 ⟨h, d', rfl, hr2, hb2⟩
  have hg2 : v1.heap.size ≤ h ∧ h < w2.heap.size := hr2.lt h rfl
  have hw2 := hbq.trans (hb2.mono hbq.size)
  have hz1 := hb1.size
  have hz2 := hb2.size
  have hrs := row_below hrq hb2 (Nat.le_refl _)
  replace q1 := q1.below hb2 q1.lt
  replace q2 := q2.below hb2 q2.lt
  simp only [List.set_cons_succ, List.set_cons_zero] at q2
  have c0 := q2.cell (i := 0) rfl
  have c1 := q2.cell (i := 1) rfl
  have c2 := q2.cell (i := 2) rfl
  have c3 := q2.cell (i := 3) rfl
  have f3 := q2.froz 3
  have p0 := q1.cell (i := 0) rfl
  have p1 := q1.cell (i := 1) rfl
  have p2 := q1.cell (i := 2) rfl
  have p3 := q1.cell (i := 3) rfl
  have o0 := q1.froz 0
  have o1 := q1.froz 1
  have o2 := q1.froz 2
  have o3 := q1.froz 3
  go_wp2
  have r1 := (((((q1.far (p := ⟨w.heap.size + 1 + 1, 3, none⟩) (by simp) (.slice (some ⟨h, 0, none⟩) G.length d')).put 0 (.string nm)).put 1 (.int .i64 bs)).put 2 (.slice (some ⟨g, 0, none⟩) H.length c')).put 3 (.slice (some ⟨h, 0, none⟩) G.length d'))
  have r2 := (row_far (row_far (row_far (row_far (row_far hrs (p := ⟨w.heap.size + 1 + 1, 3, none⟩) (by simp; omega) (.slice (some ⟨h, 0, none⟩) G.length d')) (p := ⟨w.heap.size + 1, 0, none⟩) (by simp; omega) (.string nm)) (p := ⟨w.heap.size + 1, 1, none⟩) (by simp; omega) (.int .i64 bs)) (p := ⟨w.heap.size + 1, 2, none⟩) (by simp; omega) (.slice (some ⟨g, 0, none⟩) H.length c')) (p := ⟨w.heap.size + 1, 3, none⟩) (by simp; omega) (.slice (some ⟨h, 0, none⟩) G.length d'))
  have r3 := (row_far (row_far (row_far (row_far (row_far hr2 (p := ⟨w.heap.size + 1 + 1, 3, none⟩) (by simp; omega) (.slice (some ⟨h, 0, none⟩) G.length d')) (p := ⟨w.heap.size + 1, 0, none⟩) (by simp; omega) (.string nm)) (p := ⟨w.heap.size + 1, 1, none⟩) (by simp; omega) (.int .i64 bs)) (p := ⟨w.heap.size + 1, 2, none⟩) (by simp; omega) (.slice (some ⟨g, 0, none⟩) H.length c')) (p := ⟨w.heap.size + 1, 3, none⟩) (by simp; omega) (.slice (some ⟨h, 0, none⟩) G.length d'))
  have r4 := (((((hw2.setCell (p := ⟨w.heap.size + 1 + 1, 3, none⟩) (by simp; try omega) (.slice (some ⟨h, 0, none⟩) G.length d')).setCell (p := ⟨w.heap.size + 1, 0, none⟩) (by simp; try omega) (.string nm)).setCell (p := ⟨w.heap.size + 1, 1, none⟩) (by simp; try omega) (.int .i64 bs)).setCell (p := ⟨w.heap.size + 1, 2, none⟩) (by simp; try omega) (.slice (some ⟨g, 0, none⟩) H.length c')).setCell (p := ⟨w.heap.size + 1, 3, none⟩) (by simp; try omega) (.slice (some ⟨h, 0, none⟩) G.length d'))
  simp only [List.set_cons_succ, List.set_cons_zero] at r1
  generalize (((((w2.setCell ⟨w.heap.size + 1 + 1, 3, none⟩ (.slice (some ⟨h, 0, none⟩) G.length d')).setCell ⟨w.heap.size + 1, 0, none⟩ (.string nm)).setCell ⟨w.heap.size + 1, 1, none⟩ (.int .i64 bs)).setCell ⟨w.heap.size + 1, 2, none⟩ (.slice (some ⟨g, 0, none⟩) H.length c')).setCell ⟨w.heap.size + 1, 3, none⟩ (.slice (some ⟨h, 0, none⟩) G.length d')) = w9 at r1 r2 r3 r4 ⊢
  have x0 := r1.cell (i := 0) rfl
  have x1 := r1.cell (i := 1) rfl
  have x2 := r1.cell (i := 2) rfl
  have x3 := r1.cell (i := 3) rfl
  exact bodyPost_ret (v := topV nm bs (.slice (some ⟨g, 0, none⟩) H.length c') (.slice (some ⟨h, 0, none⟩) G.length d')) (by simp [results, Try.results12, go_sem, x0, x1, x2, x3]) rfl ⟨g, c', h, d', rfl, Rw.of (own_base r2 (by omega)), Rw.of (own_base r3 (by omega)), by omega, r4⟩
end Go.Proofs.Ytkimieeabmjfgaa
