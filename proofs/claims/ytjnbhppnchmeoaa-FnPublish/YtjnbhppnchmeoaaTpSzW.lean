/- spec.l07Copy. What a call leaves that writes only into blocks from lo up to hi. Slices into blocks of the call's own, at any offset: strings and groups; the marks that the exact laws write into them. The size that the exact laws reckon of a topic. -/
import Derived.Test.YtjnbhppnchmeoaaIs3W
import Derived.Test.YtjnbhppnchmeoaaTpWkW
import Derived.Deep.DeepCutAuto
import Derived.Test.YtjnbhppnchmeoaaRwkW
import Derived.Test.YtjnbhppnchmeoaaStrArgW
namespace Go.Proofs.Ytjnbhppnchmeoaa
open Go.RowKit
set_option linter.unusedVariables false
set_option maxRecDepth 1000000
set_option maxHeartbeats 4000000 in
theorem l07Copy_any (nm : ByteArray) (bs : Int) (A : Option Addr) (H : List ByteArray) (c : Nat) (B : Option Addr) (G : List Grp) (d : Nat) (w : World) (hA : Strs w w.heap.size A H) (hB : Grs w w.heap.size B G) (hc : Cap A H.length c) (hd : Cap B G.length d) (hH : H.length ≤ 20) (hG : G.length ≤ 4) :
    Calls Try.prog 61 #[topV nm bs (.slice A H.length c) (.slice B G.length d)] w fun e w' => ∃ A' c' B' d', e = .returned (topV nm bs (.slice A' H.length c') (.slice B' G.length d')) ∧ OwnS w' w.heap.size (.slice A' H.length c') H ∧ OwnG w' w.heap.size (.slice B' G.length d') G ∧ Below w.heap.size w w' := by
  have hb0 : Below w.heap.size w (((w.alloc (.cells #[.string nm, .int .i64 bs, .slice A H.length c, .slice B G.length d] 26)).alloc (.cells #[.string ⟨#[]⟩, .int .i64 0, .slice none 0 0, .slice none 0 0] 26)).alloc (.cells #[] 9)) := (((Below.refl _ _).alloc (Nat.le_refl _) _).alloc (by simp) _).alloc (by simp; omega) _
  have k0 := ((Blk.fresh w 26 [.string nm, .int .i64 bs, .slice A H.length c, .slice B G.length d]).alloc (.cells #[.string ⟨#[]⟩, .int .i64 0, .slice none 0 0, .slice none 0 0] 26)).alloc (.cells #[] 9)
  have k1 := (Blk.fresh (w.alloc (.cells #[.string nm, .int .i64 bs, .slice A H.length c, .slice B G.length d] 26)) 26 [.string ⟨#[]⟩, .int .i64 0, .slice none 0 0, .slice none 0 0]).alloc (.cells #[] 9)
  have ow := own_empty ((w.alloc (.cells #[.string nm, .int .i64 bs, .slice A H.length c, .slice B G.length d] 26)).alloc (.cells #[.string ⟨#[]⟩, .int .i64 0, .slice none 0 0, .slice none 0 0] 26)) 9 1 (by decide)
  simp only [World.size_alloc] at k0 k1 ow
  go_enter Try.func61, Try.ntmps61
  go_upto_region 2 with (at_builtin; (refine wpList_app_str rfl (.tmp 3) (.tmp 5) rfl (w.heap.size + 1 + 1) (.slice (some ⟨w.heap.size + 1 + 1, 0, none⟩) 0 0) [] rfl ow w.heap.size A H c rfl hc.nil (hA.below hb0 (Nat.le_refl _)) (by simp; omega) (by simp) ?_); intro A' c' w1 ho hg; have q0 := k0.grown hg (by simp [Value.ownBlock] <;> omega); have c2 := q0.cell (i := 2) rfl; have f2 := q0.froz 2)
  rw [List.nil_append] at ho
  have q1 := k1.grown hg (by simp [Value.ownBlock] <;> omega)
  have hb1 := below_row hb0 (Nat.le_refl _) hg (fun k e => by simp [Value.ownBlock] at e; omega)
  have r0 := q0.put 2 (.slice A' H.length c')
  have r1 := q1.far (p := ⟨w.heap.size, 2, none⟩) (by simp) (.slice A' H.length c')
  have hoV := row_far ho (p := ⟨w.heap.size, 2, none⟩) (by simp; omega) (.slice A' H.length c')
  have hbV := hb1.setCell (p := ⟨w.heap.size, 2, none⟩) (Nat.le_refl _) (.slice A' H.length c')
  simp only [List.set_cons_succ, List.set_cons_zero] at r0
  generalize w1.setCell ⟨w.heap.size, 2, none⟩ (.slice A' H.length c') = v2 at r0 r1 hoV hbV ⊢
  clear c2 f2 q0 q1 hb1 hg ho k0 k1 ow hb0
  have n0 := r0.alloc (.cells #[] 94)
  have n1 := r1.alloc (.cells #[] 94)
  have hz := r1.lt
  have hoN := row_below hoV ((Below.refl _ v2).alloc (Nat.le_refl _) (.cells #[] 94)) (Nat.le_refl _)
  have hbN := hbV.alloc hbV.size (.cells #[] 94)
  have oe := own_empty v2 94 2 (by decide)
  have e3 := n0.cell (i := 3) rfl
  go_wp2_with (at_builtin; (refine wpList_app_grp rfl (.tmp 8) (.tmp 10) rfl v2.heap.size (.slice (some ⟨v2.heap.size, 0, none⟩) 0 0) [] rfl oe w.heap.size B G d rfl hd.nil (hB.below hbN (Nat.le_refl _)) (by simp; omega) (by simp) ?_); intro B' d' w3 hp hg3; have s0 := n0.grown hg3 (by simp [Value.ownBlock]; omega); have s1 := n1.grown hg3 (by simp [Value.ownBlock]; omega); have t0 := s0.cell (i := 0) rfl; have t1 := s0.cell (i := 1) rfl; have t2 := s0.cell (i := 2) rfl; have t3 := s0.cell (i := 3) rfl; have y3 := s0.froz 3; have u0 := s1.cell (i := 0) rfl; have u1 := s1.cell (i := 1) rfl; have u2 := s1.cell (i := 2) rfl; have u3 := s1.cell (i := 3) rfl; have x0 := s1.froz 0; have x1 := s1.froz 1; have x2 := s1.froz 2; have x3 := s1.froz 3)
  rw [List.nil_append] at hp
  have hoW : OwnS w3 (w.heap.size + 1 + 1) (.slice A' H.length c') H := World.ownsRow.kept hoN hg3 (.inr (fun e => by
    have h1 := hoV.lt v2.heap.size (by rw [e]; rfl)
    omega))
  have hb3 := below_row hbN (Nat.le_refl _) hg3 (fun k e => by simp [Value.ownBlock] at e; omega)
  have z1 := (((((s1.far (p := ⟨w.heap.size, 3, none⟩) (by simp <;> omega) (.slice B' G.length d')).put 0 (.string nm)).put 1 (.int .i64 bs)).put 2 (.slice A' H.length c')).put 3 (.slice B' G.length d'))
  have z2 := (row_far (row_far (row_far (row_far (row_far hoW (p := ⟨w.heap.size, 3, none⟩) (by simp <;> omega) (.slice B' G.length d')) (p := ⟨w.heap.size + 1, 0, none⟩) (by simp <;> omega) (.string nm)) (p := ⟨w.heap.size + 1, 1, none⟩) (by simp <;> omega) (.int .i64 bs)) (p := ⟨w.heap.size + 1, 2, none⟩) (by simp <;> omega) (.slice A' H.length c')) (p := ⟨w.heap.size + 1, 3, none⟩) (by simp <;> omega) (.slice B' G.length d'))
  have z3 := (row_far (row_far (row_far (row_far (row_far hp (p := ⟨w.heap.size, 3, none⟩) (by simp <;> omega) (.slice B' G.length d')) (p := ⟨w.heap.size + 1, 0, none⟩) (by simp <;> omega) (.string nm)) (p := ⟨w.heap.size + 1, 1, none⟩) (by simp <;> omega) (.int .i64 bs)) (p := ⟨w.heap.size + 1, 2, none⟩) (by simp <;> omega) (.slice A' H.length c')) (p := ⟨w.heap.size + 1, 3, none⟩) (by simp <;> omega) (.slice B' G.length d'))
  have z4 := (((((hb3.setCell (p := ⟨w.heap.size, 3, none⟩) (by simp <;> omega) (.slice B' G.length d')).setCell (p := ⟨w.heap.size + 1, 0, none⟩) (by simp <;> omega) (.string nm)).setCell (p := ⟨w.heap.size + 1, 1, none⟩) (by simp <;> omega) (.int .i64 bs)).setCell (p := ⟨w.heap.size + 1, 2, none⟩) (by simp <;> omega) (.slice A' H.length c')).setCell (p := ⟨w.heap.size + 1, 3, none⟩) (by simp <;> omega) (.slice B' G.length d'))
  simp only [List.set_cons_succ, List.set_cons_zero] at z1
  generalize (((((w3.setCell ⟨w.heap.size, 3, none⟩ (.slice B' G.length d')).setCell ⟨w.heap.size + 1, 0, none⟩ (.string nm)).setCell ⟨w.heap.size + 1, 1, none⟩ (.int .i64 bs)).setCell ⟨w.heap.size + 1, 2, none⟩ (.slice A' H.length c')).setCell ⟨w.heap.size + 1, 3, none⟩ (.slice B' G.length d')) = w9 at z1 z2 z3 z4 ⊢
  have g0 := z1.cell (i := 0) rfl
  have g1 := z1.cell (i := 1) rfl
  have g2 := z1.cell (i := 2) rfl
  have g3 := z1.cell (i := 3) rfl
  exact bodyPost_ret (v := topV nm bs (.slice A' H.length c') (.slice B' G.length d')) (by simp [results, Try.results61, go_sem, g0, g1, g2, g3]) rfl ⟨A', c', B', d', rfl, own_base z2 (by omega), own_base z3 (by omega), z4⟩
end Go.Proofs.Ytjnbhppnchmeoaa

namespace Go.Proofs.Ytjnbhppnchmeoaa
open Go.RowKit
set_option linter.unusedVariables false

structure Chg (w w' : World) (lo hi : Nat) : Prop where
  os : w'.os = w.os
  tape : w'.tape = w.tape
  output : w'.output = w.output
  size : w.heap.size ≤ w'.heap.size
  block : ∀ k, k < w.heap.size → (k < lo ∨ hi ≤ k) → w'.heap[k]? = w.heap[k]?
section
variable {w w' w2 : World} {lo hi lo' hi' : Nat}
theorem Chg.of {row : Option Nat} (h : w.grownBy w' row) (hr : ∀ k, row = some k → lo ≤ k ∧ k < hi) : Chg w w' lo hi :=
  ⟨h.os, h.tape, h.output, h.size, fun k hk ho => h.block k hk fun e => by have := hr k e.symm; omega⟩
theorem Chg.trans (h : Chg w w' lo hi) (h2 : Chg w' w2 lo hi) : Chg w w2 lo hi :=
  ⟨h2.os.trans h.os, h2.tape.trans h.tape, h2.output.trans h.output, Nat.le_trans h.size h2.size, fun k hk ho => (h2.block k (by have := h.size; omega) ho).trans (h.block k hk ho)⟩
theorem Chg.after (hb : Below w.heap.size w w') (h : Chg w' w2 lo hi) : Chg w w2 lo hi :=
  ⟨h.os.trans hb.os, h.tape.trans hb.tape, h.output.trans hb.output, Nat.le_trans hb.size h.size, fun k hk ho => (h.block k (by have := hb.size; omega) ho).trans (hb.block k hk)⟩
theorem Chg.thenB (h : Chg w w' lo hi) (hb : Below w'.heap.size w' w2) : Chg w w2 lo hi :=
  ⟨hb.os.trans h.os, hb.tape.trans h.tape, hb.output.trans h.output, Nat.le_trans h.size hb.size, fun k hk ho => (hb.block k (by have := h.size; omega)).trans (h.block k hk ho)⟩
theorem Blk.offC {g : Nat} {t : TypeId} {cs : List Value} (h : Blk w g t cs) (hc : Chg w w' lo hi) (ho : g < lo ∨ hi ≤ g) : Blk w' g t cs := (hc.block g h.lt ho).trans h
theorem Rw.farC {e : TypeId} {size n : Nat} {v : Value} {xs : List Value} (h : Rw w lo' hi' e size v n xs) (hc : Chg w w' lo hi) (ho : hi' ≤ lo ∨ hi ≤ lo') : Rw w' lo' hi' e size v n xs := by
  refine ⟨?_, h.2⟩
  cases hv : v.ownBlock with
  | none =>
    have hg : w.grownBy w v.ownBlock := ⟨rfl, rfl, rfl, Nat.le_refl _, fun _ _ _ => rfl⟩
    rcases h.1.2 with ⟨he, h0⟩ | ⟨g, cap, cur, he, _⟩
    · exact ⟨h.1.1, .inl ⟨he, h0⟩⟩
    · rw [he] at hv; cases hv
  | some k =>
    have h1 := h.at k hv
    rcases h.1.2 with ⟨he, h0⟩ | ⟨g, cap, cur, he, hb, hh, hr⟩
    · rw [he] at hv; cases hv
    · rw [he] at hv
      cases hv
      exact ⟨h.1.1, .inr ⟨g, cap, cur, he, hb, (hc.block g (h.1.lt g (by rw [he]; rfl)).2 (by simp at h1; omega)).trans hh, hr⟩⟩
theorem below_offC {B : Nat} {a : World} (h : Below B a w) (hc : Chg w w' lo hi) (ho : B ≤ lo) (hB : B ≤ a.heap.size) : Below B a w' :=
  ⟨hc.os.trans h.os, hc.tape.trans h.tape, hc.output.trans h.output, Nat.le_trans h.size hc.size, fun k hk => (hc.block k (by have := h.size; omega) (by omega)).trans (h.block k hk)⟩
end
end Go.Proofs.Ytjnbhppnchmeoaa

namespace Go.Proofs.Ytjnbhppnchmeoaa
open Go.RowKit
set_option linter.unusedVariables false
set_option maxRecDepth 1000000

/-- A slice with these cells, in a block between lo and hi. -/
def Sl (w : World) (lo hi : Nat) (t : TypeId) (A : Option Addr) (xs : List Value) : Prop :=
  xs = [] ∨ ∃ g off cs, A = some ⟨g, off, none⟩ ∧ (lo ≤ g ∧ g < hi) ∧ Blk w g t cs ∧ ∀ j v, xs[j]? = some v → cs[off + j]? = some v
section
variable {w w' : World} {lo hi : Nat} {t : TypeId} {A : Option Addr} {xs : List Value}
theorem Sl.below (h : Sl w lo hi t A xs) (hb : Below w.heap.size w w') : Sl w' lo hi t A xs := by
  rcases h with h | ⟨g, off, cs, h1, h2, h3, h4⟩
  · exact .inl h
  · exact .inr ⟨g, off, cs, h1, h2, h3.below hb h3.lt, h4⟩
theorem Sl.offC {lo' hi' : Nat} (h : Sl w lo hi t A xs) (hc : Chg w w' lo' hi') (ho : hi ≤ lo' ∨ hi' ≤ lo) : Sl w' lo hi t A xs := by
  rcases h with h | ⟨g, off, cs, h1, h2, h3, h4⟩
  · exact .inl h
  · exact .inr ⟨g, off, cs, h1, h2, h3.offC hc (by omega), h4⟩
theorem Sl.grown {row : Option Nat} (h : Sl w lo hi t A xs) (hc : w.grownBy w' row) (ho : ∀ a, A = some a → row ≠ some a.block) : Sl w' lo hi t A xs := by
  rcases h with h | ⟨g, off, cs, h1, h2, h3, h4⟩
  · exact .inl h
  · exact .inr ⟨g, off, cs, h1, h2, h3.grown hc (fun e => ho _ h1 e.symm), h4⟩
theorem Sl.wide {lo' hi' : Nat} (h : Sl w lo hi t A xs) (h1 : lo' ≤ lo) (h2 : hi ≤ hi') : Sl w lo' hi' t A xs := by
  rcases h with h | ⟨g, off, cs, e1, e2, h3, h4⟩
  · exact .inl h
  · exact .inr ⟨g, off, cs, e1, by omega, h3, h4⟩
end
theorem Sl.of_own {w : World} {lo n size : Nat} {t : TypeId} {v : Value} {xs : List Value} (h : w.ownsRow lo t size v n xs) {A : Option Addr} {m c : Nat} (hv : v = .slice A m c) : Sl w lo w.heap.size t A xs := by
  have hl := h.lt
  have hx := h.1
  rcases h.2 with ⟨e, hz⟩ | ⟨g, cap, cur, e, hg, hb, hn, hm, hs, ht⟩
  · exact .inl (List.eq_nil_of_length_eq_zero (by rw [hx, hz]; simp))
  · rw [hv] at e
    cases e
    refine .inr ⟨g, 0, cur.toList, rfl, ⟨hg, (hl g (by rw [hv]; rfl)).2⟩, by unfold Blk; simpa using hb, fun j u hj => ?_⟩
    have hc := World.ownsRow.cells h (g := g) (by rw [hv]; rfl) j u hj
    rw [add_none, cell_of_row w g _ cur _ (0, 0) hb] at hc
    simpa using hc
theorem Rw.sl {w : World} {lo hi n size m c : Nat} {t : TypeId} {A : Option Addr} {xs : List Value} (h : Rw w lo hi t size (.slice A m c) n xs) : Sl w lo hi t A xs := by
  rcases Sl.of_own h.1 rfl with h1 | ⟨g, off, cs, h1, h2, h3, h4⟩
  · exact .inl h1
  · exact .inr ⟨g, off, cs, h1, ⟨h2.1, h.2 g (by rw [h1]; rfl)⟩, h3, h4⟩
theorem Sl.strs {w : World} {lo hi : Nat} {A : Option Addr} {L : List ByteArray} (h : Sl w lo hi 9 A (L.map Value.string)) (hn : L.length ≤ maxLen) : Strs w w.heap.size A L := by
  refine ⟨hn, fun i hi => ?_⟩
  rcases h with h | ⟨g, off, cs, h1, h2, h3, h4⟩
  · have : L = [] := by simpa using h
    subst this; simp at hi
  · have e0 : (L.map Value.string)[i]? = some (.string L[i]) := by simp [hi]
    exact ⟨_, h1, h3.lt, by rw [add_none]; exact h3.cell (h4 _ _ e0)⟩
theorem Sl.grs {w : World} {lo hi : Nat} {A : Option Addr} {L : List Grp} (h : Sl w lo hi 94 A (gflat L)) (hn : L.length ≤ maxLen) : Grs w w.heap.size A L := by
  refine ⟨hn, fun i hi => ?_⟩
  rcases h with h | ⟨g, off, cs, h1, h2, h3, h4⟩
  · have := gflat_len L
    rw [h] at this
    simp at this
    omega
  · have e0 : (gflat L)[i * 2]? = some (.string L[i].name) := by have := gflat_get L i hi 0 (by omega); rw [Nat.add_zero] at this; rw [this]; rfl
    have e1 : (gflat L)[i * 2 + 1]? = some (.int .i64 L[i].acked) := by rw [gflat_get L i hi 1 (by omega)]; rfl
    exact ⟨_, h1, h3.lt, by rw [add_none]; exact h3.cell (h4 _ _ e0), by rw [add_none]; exact h3.cell (h4 _ _ e1)⟩
/-- What a call leaves that writes only into the block of a slice (into none where the slice is empty). -/
def Wr (w w' : World) (A : Option Addr) (xs : List Value) : Prop := ∃ row, w.grownBy w' row ∧ ∀ k, row = some k → xs ≠ [] ∧ A.map (·.block) = some k
theorem Sl.keep {w w' : World} {lo hi : Nat} {t : TypeId} {A B : Option Addr} {xs ys : List Value} (h : Sl w lo hi t A xs) (hc : Wr w w' B ys) (ho : xs ≠ [] → ys ≠ [] → A.map (·.block) ≠ B.map (·.block)) : Sl w' lo hi t A xs := by
  rcases h with h | ⟨g, off, cs, h1, h2, h3, h4⟩
  · exact .inl h
  · by_cases hx : xs = []
    · exact .inl hx
    · obtain ⟨row, hg, hr⟩ := hc
      refine .inr ⟨g, off, cs, h1, h2, h3.grown hg (fun e => ?_), h4⟩
      obtain ⟨hy, hb⟩ := hr g e.symm
      exact ho hx hy (by rw [h1, hb]; rfl)
theorem Sl.differ {w : World} {lo hi lo' hi' : Nat} {t t' : TypeId} {A B : Option Addr} {xs ys : List Value} (h : Sl w lo hi t A xs) (h' : Sl w lo' hi' t' B ys) (ht : t ≠ t') : xs ≠ [] → ys ≠ [] → A.map (·.block) ≠ B.map (·.block) := by
  intro hx hy e
  rcases h with h | ⟨g, off, cs, h1, _, h3, _⟩
  · exact hx h
  · rcases h' with h' | ⟨g', off', cs', h1', _, h3', _⟩
    · exact hy h'
    · rw [h1, h1'] at e
      simp at e
      subst e
      unfold Blk at h3 h3'
      rw [h3] at h3'
      injection h3' with h3'
      injection h3' with _ h4 _
      exact ht h4
theorem Wr.of {w w' : World} {g off : Nat} {xs : List Value} (h : w.grownBy w' (some g)) (hx : xs ≠ []) : Wr w w' (some ⟨g, off, none⟩) xs := ⟨_, h, fun k e => ⟨hx, by rw [← e]; rfl⟩⟩
theorem Wr.none {w : World} {A : Option Addr} {xs : List Value} : Wr w w A xs := ⟨.none, World.grownBy.refl _ _, fun k e => by cases e⟩
theorem Strs.offC {w w' : World} {B lo hi : Nat} {A : Option Addr} {L : List ByteArray} (h : Strs w B A L) (hc : Chg w w' lo hi) (ho : B ≤ lo) (hB : B ≤ w.heap.size) : Strs w' B A L :=
  ⟨h.1, fun i hi => by
    obtain ⟨a, e, h1, h2⟩ := h.2 i hi
    exact ⟨a, e, h1, by rw [World.cell?_of_block (a := a.add _) (hc.block _ (by rw [add_blk]; omega) (by rw [add_blk]; omega))]; exact h2⟩⟩
theorem Grs.offC {w w' : World} {B lo hi : Nat} {A : Option Addr} {L : List Grp} (h : Grs w B A L) (hc : Chg w w' lo hi) (ho : B ≤ lo) (hB : B ≤ w.heap.size) : Grs w' B A L := by
  refine ⟨h.1, fun i hi => ?_⟩
  obtain ⟨a, e, h1, h2, h3⟩ := h.2 i hi
  have hk := hc.block a.block (by omega) (by omega)
  have hk' : ∀ m, w'.cell? (a.add m) = w.cell? (a.add m) := fun m => World.cell?_of_block (a := a.add m) (by rw [add_blk]; exact hk)
  exact ⟨a, e, h1, by rw [hk']; exact h2, by rw [hk']; exact h3⟩
/-- A cell of the block that a slice lies in changes. -/
theorem set_over {cs xs : List Value} {off j : Nat} {u : Value} (h : ∀ i v, xs[i]? = some v → cs[off + i]? = some v) (hj : j < xs.length) : ∀ i v, (xs.set j u)[i]? = some v → (cs.set (off + j) u)[off + i]? = some v := by
  intro i v hi
  rw [List.getElem?_set] at hi ⊢
  by_cases e : j = i
  · subst e
    have h0 := h j xs[j] (by simp [hj])
    have hlt : off + j < cs.length := by
      rcases Nat.lt_or_ge (off + j) cs.length with h1 | h1
      · exact h1
      · rw [List.getElem?_eq_none h1] at h0; cases h0
    simp [hj] at hi
    simp [hlt, hi]
  · simp [e] at hi
    simp [e, h i v hi]

/-- The marks of n groups, from k on. -/
def markG (n k : Nat) : List Grp := (List.range n).map fun i => ⟨markS (k + 2 * i), ((k + 2 * i + 1 : Nat) : Int)⟩
theorem markG_len (n k : Nat) : (markG n k).length = n := by simp [markG]
theorem markG_get {n k i : Nat} (h : i < n) : (markG n k)[i]'(by rw [markG_len]; exact h) = ⟨markS (k + 2 * i), ((k + 2 * i + 1 : Nat) : Int)⟩ := by simp [markG]
end Go.Proofs.Ytjnbhppnchmeoaa

namespace Go.Proofs.Ytjnbhppnchmeoaa
open Go.RowKit
set_option linter.unusedVariables false
set_option maxRecDepth 1000000

/-- A topic of no great size. -/
def Tpc.small (t : Tpc) : Prop := t.name.size ≤ 1048576 ∧ (t.held.length ≤ 1048576 ∧ ∀ i (h : i < t.held.length), t.held[i].size ≤ 1048576) ∧ (t.groups.length ≤ 1048576 ∧ ∀ i (h : i < t.groups.length), t.groups[i].name.size ≤ 1048576)

def szG (f : Grp) (left : Int) : Int := if left - f.name.size < 0 then -1 else left - f.name.size
theorem szG_lo (f : Grp) (left : Int) (h : 0 ≤ left) : -1 ≤ szG f left ∧ szG f left ≤ left := by unfold szG; split <;> omega
theorem szG_ok {f : Grp} {left : Int} (h1 : left ≤ 1048576) (h : 0 ≤ szG f left) : f.name.size ≤ 1048576 := by
  unfold szG at h
  split at h <;> omega

end Go.Proofs.Ytjnbhppnchmeoaa
