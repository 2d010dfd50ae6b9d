/- Slices into blocks of the call's own, at any offset: strings and groups; the marks that the exact laws write into them. -/
import Derived.Test.YtdehpdmgoaopfaaTp
import Derived.Test.YtdehpdmgoaopfaaChg
import Derived.Test.YtdehpdmgoaopfaaKept
namespace Go.Proofs.Ytdehpdmgoaopfaa
open Go.RowKit
set_option linter.unusedVariables false
set_option maxRecDepth 1000000

/-- A slice with these cells, in a block between lo and hi. -/
def Sl (w : World) (lo hi : Nat) (t : TypeId) (A : Option Addr) (xs : List Value) : Prop :=
  xs = [] ∨ ∃ g off cs, A = some ⟨g, off, none⟩ ∧ (lo ≤ g ∧ g < hi) ∧ Blk w g t cs ∧ ∀ j v, xs[j]? = some v → cs[off + j]? = some v
section
variable {w w' : World} {lo hi : Nat} {t : TypeId} {A : Option Addr} {xs : List Value}
theorem Sl.below (h : Sl w lo hi t A xs) (hb : Below w.heap.size w w') : Sl w' lo hi t A xs := by
  rcases h with h | ⟨g, off, cs, h1, h2, h3, h4⟩
  · exact .inl h
  · exact .inr ⟨g, off, cs, h1, h2, h3.below hb h3.lt, h4⟩
theorem Sl.offC {lo' hi' : Nat} (h : Sl w lo hi t A xs) (hc : Chg w w' lo' hi') (ho : hi ≤ lo' ∨ hi' ≤ lo) : Sl w' lo hi t A xs := by
  rcases h with h | ⟨g, off, cs, h1, h2, h3, h4⟩
  · exact .inl h
  · exact .inr ⟨g, off, cs, h1, h2, h3.offC hc (by omega), h4⟩
theorem Sl.grown {row : Option Nat} (h : Sl w lo hi t A xs) (hc : w.grownBy w' row) (ho : ∀ a, A = some a → row ≠ some a.block) : Sl w' lo hi t A xs := by
  rcases h with h | ⟨g, off, cs, h1, h2, h3, h4⟩
  · exact .inl h
  · exact .inr ⟨g, off, cs, h1, h2, h3.grown hc (fun e => ho _ h1 e.symm), h4⟩
theorem Sl.wide {lo' hi' : Nat} (h : Sl w lo hi t A xs) (h1 : lo' ≤ lo) (h2 : hi ≤ hi') : Sl w lo' hi' t A xs := by
  rcases h with h | ⟨g, off, cs, e1, e2, h3, h4⟩
  · exact .inl h
  · exact .inr ⟨g, off, cs, e1, by omega, h3, h4⟩
end
theorem Sl.of_own {w : World} {lo n size : Nat} {t : TypeId} {v : Value} {xs : List Value} (h : w.ownsRow lo t size v n xs) {A : Option Addr} {m c : Nat} (hv : v = .slice A m c) : Sl w lo w.heap.size t A xs := by
  have hl := h.lt
  have hx := h.1
  rcases h.2 with ⟨e, hz⟩ | ⟨g, cap, cur, e, hg, hb, hn, hm, hs, ht⟩
  · exact .inl (List.eq_nil_of_length_eq_zero (by rw [hx, hz]; simp))
  · rw [hv] at e
    cases e
    refine .inr ⟨g, 0, cur.toList, rfl, ⟨hg, (hl g (by rw [hv]; rfl)).2⟩, by unfold Blk; simpa using hb, fun j u hj => ?_⟩
    have hc := World.ownsRow.cells h (g := g) (by rw [hv]; rfl) j u hj
    rw [add_none, cell_of_row w g _ cur _ (0, 0) hb] at hc
    simpa using hc
theorem Rw.sl {w : World} {lo hi n size m c : Nat} {t : TypeId} {A : Option Addr} {xs : List Value} (h : Rw w lo hi t size (.slice A m c) n xs) : Sl w lo hi t A xs := by
  rcases Sl.of_own h.1 rfl with h1 | ⟨g, off, cs, h1, h2, h3, h4⟩
  · exact .inl h1
  · exact .inr ⟨g, off, cs, h1, ⟨h2.1, h.2 g (by rw [h1]; rfl)⟩, h3, h4⟩
theorem Sl.strs {w : World} {lo hi : Nat} {A : Option Addr} {L : List ByteArray} (h : Sl w lo hi 9 A (L.map Value.string)) (hn : L.length ≤ maxLen) : Strs w w.heap.size A L := by
  refine ⟨hn, fun i hi => ?_⟩
  rcases h with h | ⟨g, off, cs, h1, h2, h3, h4⟩
  · have : L = [] := by simpa using h
    subst this; simp at hi
  · have e0 : (L.map Value.string)[i]? = some (.string L[i]) := by simp [hi]
    exact ⟨_, h1, h3.lt, by rw [add_none]; exact h3.cell (h4 _ _ e0)⟩
theorem Sl.grs {w : World} {lo hi : Nat} {A : Option Addr} {L : List Grp} (h : Sl w lo hi 47 A (gflat L)) (hn : L.length ≤ maxLen) : Grs w w.heap.size A L := by
  refine ⟨hn, fun i hi => ?_⟩
  rcases h with h | ⟨g, off, cs, h1, h2, h3, h4⟩
  · have := gflat_len L
    rw [h] at this
    simp at this
    omega
  · have e0 : (gflat L)[i * 2]? = some (.string L[i].name) := by have := gflat_get L i hi 0 (by omega); rw [Nat.add_zero] at this; rw [this]; rfl
    have e1 : (gflat L)[i * 2 + 1]? = some (.int .i64 L[i].acked) := by rw [gflat_get L i hi 1 (by omega)]; rfl
    exact ⟨_, h1, h3.lt, by rw [add_none]; exact h3.cell (h4 _ _ e0), by rw [add_none]; exact h3.cell (h4 _ _ e1)⟩
/-- What a call leaves that writes only into the block of a slice (into none where the slice is empty). -/
def Wr (w w' : World) (A : Option Addr) (xs : List Value) : Prop := ∃ row, w.grownBy w' row ∧ ∀ k, row = some k → xs ≠ [] ∧ A.map (·.block) = some k
theorem Sl.keep {w w' : World} {lo hi : Nat} {t : TypeId} {A B : Option Addr} {xs ys : List Value} (h : Sl w lo hi t A xs) (hc : Wr w w' B ys) (ho : xs ≠ [] → ys ≠ [] → A.map (·.block) ≠ B.map (·.block)) : Sl w' lo hi t A xs := by
  rcases h with h | ⟨g, off, cs, h1, h2, h3, h4⟩
  · exact .inl h
  · by_cases hx : xs = []
    · exact .inl hx
    · obtain ⟨row, hg, hr⟩ := hc
      refine .inr ⟨g, off, cs, h1, h2, h3.grown hg (fun e => ?_), h4⟩
      obtain ⟨hy, hb⟩ := hr g e.symm
      exact ho hx hy (by rw [h1, hb]; rfl)
theorem Sl.differ {w : World} {lo hi lo' hi' : Nat} {t t' : TypeId} {A B : Option Addr} {xs ys : List Value} (h : Sl w lo hi t A xs) (h' : Sl w lo' hi' t' B ys) (ht : t ≠ t') : xs ≠ [] → ys ≠ [] → A.map (·.block) ≠ B.map (·.block) := by
  intro hx hy e
  rcases h with h | ⟨g, off, cs, h1, _, h3, _⟩
  · exact hx h
  · rcases h' with h' | ⟨g', off', cs', h1', _, h3', _⟩
    · exact hy h'
    · rw [h1, h1'] at e
      simp at e
      subst e
      unfold Blk at h3 h3'
      rw [h3] at h3'
      injection h3' with h3'
      injection h3' with _ h4 _
      exact ht h4
theorem Wr.of {w w' : World} {g off : Nat} {xs : List Value} (h : w.grownBy w' (some g)) (hx : xs ≠ []) : Wr w w' (some ⟨g, off, none⟩) xs := ⟨_, h, fun k e => ⟨hx, by rw [← e]; rfl⟩⟩
theorem Wr.none {w : World} {A : Option Addr} {xs : List Value} : Wr w w A xs := ⟨.none, World.grownBy.refl _ _, fun k e => by cases e⟩
theorem Strs.offC {w w' : World} {B lo hi : Nat} {A : Option Addr} {L : List ByteArray} (h : Strs w B A L) (hc : Chg w w' lo hi) (ho : B ≤ lo) (hB : B ≤ w.heap.size) : Strs w' B A L :=
  ⟨h.1, fun i hi => by
    obtain ⟨a, e, h1, h2⟩ := h.2 i hi
    exact ⟨a, e, h1, by rw [World.cell?_of_block (a := a.add _) (hc.block _ (by rw [add_blk]; omega) (by rw [add_blk]; omega))]; exact h2⟩⟩
theorem Grs.offC {w w' : World} {B lo hi : Nat} {A : Option Addr} {L : List Grp} (h : Grs w B A L) (hc : Chg w w' lo hi) (ho : B ≤ lo) (hB : B ≤ w.heap.size) : Grs w' B A L := by
  refine ⟨h.1, fun i hi => ?_⟩
  obtain ⟨a, e, h1, h2, h3⟩ := h.2 i hi
  have hk := hc.block a.block (by omega) (by omega)
  have hk' : ∀ m, w'.cell? (a.add m) = w.cell? (a.add m) := fun m => World.cell?_of_block (a := a.add m) (by rw [add_blk]; exact hk)
  exact ⟨a, e, h1, by rw [hk']; exact h2, by rw [hk']; exact h3⟩
/-- A cell of the block that a slice lies in changes. -/
theorem set_over {cs xs : List Value} {off j : Nat} {u : Value} (h : ∀ i v, xs[i]? = some v → cs[off + i]? = some v) (hj : j < xs.length) : ∀ i v, (xs.set j u)[i]? = some v → (cs.set (off + j) u)[off + i]? = some v := by
  intro i v hi
  rw [List.getElem?_set] at hi ⊢
  by_cases e : j = i
  · subst e
    have h0 := h j xs[j] (by simp [hj])
    have hlt : off + j < cs.length := by
      rcases Nat.lt_or_ge (off + j) cs.length with h1 | h1
      · exact h1
      · rw [List.getElem?_eq_none h1] at h0; cases h0
    simp [hj] at hi
    simp [hlt, hi]
  · simp [e] at hi
    simp [e, h i v hi]

set_option maxHeartbeats 2000000 in
theorem markStringS_at (g off n c k : Nat) (L : List ByteArray) (cs : List Value) (w : World) (hl : L.length = n) (hB : Blk w g 9 cs) (hc : ∀ j v, (L.map Value.string)[j]? = some v → cs[off + j]? = some v) (h0 : 1 ≤ k) (h1 : k + n ≤ 4000000) :
    Calls Try.prog 87 #[.slice (some ⟨g, off, none⟩) n c, .int .i64 k] w fun e w' => e = .returned (.int .i64 ((k + n : Nat) : Int)) ∧
      (∃ cs', Blk w' g 9 cs' ∧ ∀ j v, ((markN n k).map Value.string)[j]? = some v → cs'[off + j]? = some v) ∧ w.grownBy w' (some g) := by
  go_enter Try.func87, Try.ntmps87
  go_wp2
  go_loopw [1, 5] (fun q i wr => ∃ j : Nat, j ≤ n ∧ i = .int .i64 j ∧ q = .int .i64 ((k + j : Nat) : Int) ∧ (∃ cs', Blk wr g 9 cs' ∧ ∀ i v, (((markN n k).take j ++ L.drop j).map Value.string)[i]? = some v → cs'[off + i]? = some v) ∧ w.grownBy wr (some g)) (fun _ i _ => n - (intOf i).toNat)
  case atStart => exact ⟨0, by omega, rfl, rfl, ⟨cs, hB, by simpa using hc⟩, World.grownBy.refl _ _⟩
  case round =>
    obtain ⟨j, hj, rfl, rfl, ⟨cs1, hr, hc1⟩, hg⟩ := hrel
    by_cases hlt : j < n
    · have hlt' : (j : Int) < (n : Int) := by omega
      go_wp2_with (fail)
      refine (markText_any (k + j) _ (by omega) (by omega)).mono ?_
      rintro e w1 ⟨rfl, hb1⟩
      have r1 := hr.below hb1 hr.lt
      have g1 := gr_below hg hb1
      have hjl : j < (((markN n k).take j ++ L.drop j).map Value.string).length := by simp [markN_len]; omega
      have c1 := r1.cell (i := off + j) (hc1 j _ (List.getElem?_eq_getElem hjl))
      have f1 := r1.froz (off + j)
      have s1 := r1.put (off + j) (.string (markS (k + j)))
      have hc2 := set_over (u := .string (markS (k + j))) hc1 hjl
      have t1 := gr_set g1 (i := off + j) (.string (markS (k + j)))
      have e1 : ((markN n k).take j ++ L.drop j).set j (markS (k + j)) = (markN n k).take (j + 1) ++ L.drop (j + 1) := by
        rw [← markN_get hlt]; exact part_set (by rw [markN_len]; omega) (by omega)
      rw [← List.map_set, e1] at hc2
      clear hc1 r1
      go_wp2
      exact ⟨⟨j + 1, by omega, by go_num, by go_num, ⟨_, s1, hc2⟩, t1⟩, by simp [intOf]; omega⟩
    · obtain rfl : j = n := by omega
      go_wp2
      go_ret
      rw [List.take_of_length_le (by rw [markN_len]; exact Nat.le_refl _), List.drop_of_length_le (by omega), List.append_nil] at hc1
      exact ⟨rfl, ⟨cs1, hr, hc1⟩, hg⟩
theorem markStringS_sl (A : Option Addr) (L : List ByteArray) (c lo hi k : Nat) (w : World) (h : Sl w lo hi 9 A (L.map Value.string)) (h0 : 1 ≤ k) (h1 : k + L.length ≤ 4000000) :
    Calls Try.prog 87 #[.slice A L.length c, .int .i64 k] w fun e w' => e = .returned (.int .i64 ((k + L.length : Nat) : Int)) ∧
      Sl w' lo hi 9 A ((markN L.length k).map Value.string) ∧ Wr w w' A (L.map Value.string) ∧ Chg w w' lo hi := by
  by_cases hx : L.map Value.string = []
  · have hz' : L = [] := by simpa using hx
    subst hz'
    go_enter Try.func87, Try.ntmps87
    go_wp2
    go_loop [1, 5] (fun q i => q = .int .i64 k ∧ i = .int .i64 0) (fun _ _ => 0)
    case atStart => exact ⟨rfl, rfl⟩
    case round =>
      obtain ⟨rfl, rfl⟩ := hrel
      go_wp2
      go_ret
      exact ⟨rfl, .inl (by simp [markN]), Wr.none, Chg.of (row := none) (World.grownBy.refl _ _) (fun k h => by cases h)⟩
  · rcases h with h | ⟨g, off, cs, rfl, h2, h3, h4⟩
    · exact absurd h hx
    · refine (markStringS_at g off L.length c k L cs w rfl h3 h4 h0 h1).mono fun e w' ⟨he, ⟨cs', q1, q2⟩, q3⟩ => ⟨he, .inr ⟨g, off, cs', rfl, h2, q1, q2⟩, Wr.of q3 hx, Chg.of q3 (fun k e => by cases e; exact h2)⟩

/-- The marks of n groups, from k on. -/
def markG (n k : Nat) : List Grp := (List.range n).map fun i => ⟨markS (k + 2 * i), ((k + 2 * i + 1 : Nat) : Int)⟩
theorem markG_len (n k : Nat) : (markG n k).length = n := by simp [markG]
theorem markG_get {n k i : Nat} (h : i < n) : (markG n k)[i]'(by rw [markG_len]; exact h) = ⟨markS (k + 2 * i), ((k + 2 * i + 1 : Nat) : Int)⟩ := by simp [markG]
set_option maxHeartbeats 2000000 in
theorem markGroupS_at (g off n c k : Nat) (L : List Grp) (cs : List Value) (w : World) (hl : L.length = n) (hB : Blk w g 47 cs) (hc : ∀ j v, (gflat L)[j]? = some v → cs[off + j]? = some v) (h0 : 1 ≤ k) (h1 : k + 2 * n ≤ 4000000) :
    Calls Try.prog 88 #[.slice (some ⟨g, off, none⟩) n c, .int .i64 k] w fun e w' => e = .returned (.int .i64 ((k + 2 * n : Nat) : Int)) ∧
      (∃ cs', Blk w' g 47 cs' ∧ ∀ j v, (gflat (markG n k))[j]? = some v → cs'[off + j]? = some v) ∧ w.grownBy w' (some g) := by
  go_enter Try.func88, Try.ntmps88
  go_wp2
  go_loopw [1, 5] (fun q i wr => ∃ j : Nat, j ≤ n ∧ i = .int .i64 j ∧ q = .int .i64 ((k + 2 * j : Nat) : Int) ∧ (∃ cs', Blk wr g 47 cs' ∧ ∀ i v, (gflat ((markG n k).take j ++ L.drop j))[i]? = some v → cs'[off + i]? = some v) ∧ w.grownBy wr (some g)) (fun _ i _ => n - (intOf i).toNat)
  case atStart => exact ⟨0, by omega, rfl, rfl, ⟨cs, hB, by simpa using hc⟩, World.grownBy.refl _ _⟩
  case round =>
    obtain ⟨j, hj, rfl, rfl, ⟨cs1, hr, hc1⟩, hg⟩ := hrel
    by_cases hlt : j < n
    · have hlt' : (j : Int) < (n : Int) := by omega
      go_wp2_with (fail)
      refine (markText_any (k + 2 * j) _ (by omega) (by omega)).mono ?_
      rintro e w1 ⟨rfl, hb1⟩
      have r1 := hr.below hb1 hr.lt
      have g1 := gr_below hg hb1
      have hjl : (gflat ((markG n k).take j ++ L.drop j)).length = n * 2 := by rw [gflat_len]; simp [markG_len]; omega
      have c1 := r1.cell (i := off + j * 2) (hc1 (j * 2) _ (List.getElem?_eq_getElem (by omega)))
      have c2 := r1.cell (i := off + (j * 2 + 1)) (hc1 (j * 2 + 1) _ (List.getElem?_eq_getElem (by omega)))
      have f1 := r1.froz (off + j * 2)
      have f2 := r1.froz (off + (j * 2 + 1))
      have s1 := r1.put (off + j * 2) (.string (markS (k + 2 * j)))
      have hc2 := set_over (j := j * 2) (u := .string (markS (k + 2 * j))) hc1 (by omega)
      have t1 := gr_set g1 (i := off + j * 2) (.string (markS (k + 2 * j)))
      have s2 := s1.put (off + (j * 2 + 1)) (.int .i64 ((k + 2 * j + 1 : Nat) : Int))
      have hc3 := set_over (j := j * 2 + 1) (u := .int .i64 ((k + 2 * j + 1 : Nat) : Int)) hc2 (by rw [List.length_set]; omega)
      have t2 := gr_set t1 (i := off + (j * 2 + 1)) (.int .i64 ((k + 2 * j + 1 : Nat) : Int))
      have e3 := gflat_set ⟨markS (k + 2 * j), ((k + 2 * j + 1 : Nat) : Int)⟩ ((markG n k).take j ++ L.drop j) j
      simp only at e3
      rw [e3, ← markG_get hlt, part_set (by rw [markG_len]; omega) (by omega)] at hc3
      have hv : ((k + 2 * j + 1 : Nat) : Int) = (k : Int) + 2 * (j : Int) + 1 := by omega
      rw [hv] at s2 t2
      rw [show off + (j * 2 + 1) = off + j * 2 + 1 by omega] at s2 t2 c2 f2 hc3
      have hc4 : ∀ i v, (gflat ((markG n k).take (j + 1) ++ L.drop (j + 1)))[i]? = some v → ((cs1.set (off + j * 2) (.string (markS (k + 2 * j)))).set (off + j * 2 + 1) (.int .i64 ((k : Int) + 2 * (j : Int) + 1)))[off + i]? = some v := by
        rw [← hv]; exact hc3
      clear hc1 hc2 hc3 r1 e3 s1 t1
      go_wp2
      exact ⟨⟨j + 1, by omega, by go_num, by go_num, ⟨_, s2, hc4⟩, t2⟩, by simp [intOf]; omega⟩
    · obtain rfl : j = n := by omega
      go_wp2
      go_ret
      rw [List.take_of_length_le (by rw [markG_len]; exact Nat.le_refl _), List.drop_of_length_le (by omega), List.append_nil] at hc1
      exact ⟨rfl, ⟨cs1, hr, hc1⟩, hg⟩
theorem markGroupS_sl (A : Option Addr) (L : List Grp) (c lo hi k : Nat) (w : World) (h : Sl w lo hi 47 A (gflat L)) (h0 : 1 ≤ k) (h1 : k + 2 * L.length ≤ 4000000) :
    Calls Try.prog 88 #[.slice A L.length c, .int .i64 k] w fun e w' => e = .returned (.int .i64 ((k + 2 * L.length : Nat) : Int)) ∧
      Sl w' lo hi 47 A (gflat (markG L.length k)) ∧ Wr w w' A (gflat L) ∧ Chg w w' lo hi := by
  by_cases hx : gflat L = []
  · have hz' : L = [] := by
      have := gflat_len L
      rw [hx] at this
      exact List.eq_nil_of_length_eq_zero (by simp at this; omega)
    subst hz'
    go_enter Try.func88, Try.ntmps88
    go_wp2
    go_loop [1, 5] (fun q i => q = .int .i64 k ∧ i = .int .i64 0) (fun _ _ => 0)
    case atStart => exact ⟨rfl, rfl⟩
    case round =>
      obtain ⟨rfl, rfl⟩ := hrel
      go_wp2
      go_ret
      exact ⟨rfl, .inl (by simp [markG, gflat]), Wr.none, Chg.of (row := none) (World.grownBy.refl _ _) (fun k h => by cases h)⟩
  · rcases h with h | ⟨g, off, cs, rfl, h2, h3, h4⟩
    · exact absurd h hx
    · refine (markGroupS_at g off L.length c k L cs w rfl h3 h4 h0 h1).mono fun e w' ⟨he, ⟨cs', q1, q2⟩, q3⟩ => ⟨he, .inr ⟨g, off, cs', rfl, h2, q1, q2⟩, Wr.of q3 hx, Chg.of q3 (fun k e => by cases e; exact h2)⟩
set_option maxHeartbeats 2000000 in
theorem heldGroupS_any (A : Option Addr) (n c k : Nat) (w : World) (hF : Grs w w.heap.size A (markG n k)) (h0 : 1 ≤ k) (h1 : k + 2 * n ≤ 4000000) :
    Calls Try.prog 109 #[.slice A n c, .int .i64 k] w fun e w' => e = .returned (.int .i64 ((k + 2 * n : Nat) : Int)) ∧ Below w.heap.size w w' := by
  go_enter Try.func109, Try.ntmps109
  go_wp2
  go_loopw [1, 5] (fun q i wr => ∃ j : Nat, j ≤ n ∧ i = .int .i64 j ∧ q = .int .i64 ((k + 2 * j : Nat) : Int) ∧ Below w.heap.size w wr) (fun _ i _ => n - (intOf i).toNat)
  case atStart => exact ⟨0, by omega, rfl, rfl, Below.refl _ _⟩
  case round =>
    obtain ⟨j, hj, rfl, rfl, hb⟩ := hrel
    by_cases hlt : j < n
    · have hlt' : (j : Int) < (n : Int) := by omega
      obtain ⟨a, rfl, hab, a0, a1⟩ := (hF.below hb (Nat.le_refl _)).at j (by rw [markG_len]; exact hlt)
      rw [markG_get hlt] at a0 a1
      simp only at a0 a1
      obtain ⟨I, f, hI, g0, gk, gc, ge⟩ := class_grown wr
      have x0 := fun s => kept_cell (gk s) a0
      have M0 := fun W => markText_any (k + 2 * j) W (by omega) (by omega)
      clear a0
      go_wp2
      refine wp_region_kept f (by kernel_rfl) (by kernel_rfl) g0 ?_
      repeat (first
        | go_big_quiet_skip
        | (go_big_quiet_want; go_big_quiet_op; first | go_big_quiet_on | (apply Exists.intro; refine ⟨fun s => ?_, ?_⟩; (go_at_call 108; refine (M0 _).mono ?_; rintro e w4 ⟨rfl, hb4⟩; exact ⟨rfl, gc _ _ hb4⟩); go_big_quiet_on)))
      refine wpQuiet_nil ?_
      intro w5 h5
      have hb5 := ge _ h5
      have a1' := kept_cell hb5 a1
      have hv : ((k + 2 * j + 1 : Nat) : Int) = (k : Int) + 2 * (j : Int) + 1 := by omega
      rw [hv] at a1'
      clear a1 g0 gk gc ge x0
      go_wp2
      exact ⟨⟨j + 1, by omega, by go_num, by go_num, hb.trans (hb5.mono hb.size)⟩, by simp [intOf]; omega⟩
    · obtain rfl : j = n := by omega
      go_wp2
      go_ret
      exact ⟨rfl, hb⟩
end Go.Proofs.Ytdehpdmgoaopfaa
