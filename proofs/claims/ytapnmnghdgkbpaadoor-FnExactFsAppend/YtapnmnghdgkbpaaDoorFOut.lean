/- The contract of spec.l03Out: a file taken out of a slice of files. -/
import Derived.Test.YtapnmnghdgkbpaaDoorFilCopy
import Derived.Test.YtapnmnghdgkbpaaDoorKept
import Derived.Deep.RegionLaw
import Derived.Laws.AppendOwn
namespace Go.Proofs.YtapnmnghdgkbpaaDoor
open Go.RowKit
set_option linter.unusedVariables false
set_option maxRecDepth 1000000

/-- An append at a step of a region that draws its order; what is appended may be empty. -/
theorem step_append_any {P : Program} (w : World) {ops : Array Oper} {o : Oper} {a : Act} {K : Act → World → Prop} {Q : Exit → Act → World → Prop} {E : Prop} (hgd : o.guard = none) (s x : Operand) (t : TypeId)
    (ho : o.op = .call { callee := .builtin .append, args := #[s, x], argTypes := #[t, t] })
    (base : Nat) (e : TypeId) (i : TypeInfo) (z : Value) (size bytes : Nat) (ht : P.underlying t = some (.slice e)) (hi : P.info? e = some i) (hz : i.zero = some z)
    (hsize : i.size = size) (hby : i.bytes = bytes) (hzs : z.cells.size = size) (hsz : 0 < size)
    (v : Value) (n : Nat) (xs : List Value) (hs : a.eval s = v) (hown : w.ownsRow base e size v n xs)
    (ad : Addr) (m c : Nat) (news : List Value) (hx : a.eval x = .slice (some ad) m c) (hl : news.length = m * size) (hnews : ∀ j u, news[j]? = some u → w.cell? (ad.add j) = some u) (h1 : ∀ u ∈ news, u.oneCell' = true)
    (h63 : n + m ≤ maxLen) (hbytes : (n + m) * bytes ≤ 140737488355328) (hbase : base ≤ w.heap.size)
    (h : ∀ v' w', w'.ownsRow base e size v' (n + m) (xs ++ news) → w.grownBy w' v.ownBlock → K (a.put o.dst v') w') :
    if Region.wanted o (yielded ops a.tmps) = true then Oper.wp P o a w K Q else E := by
  have hw : Region.wanted o (yielded ops a.tmps) = true := by simp [Region.wanted, hgd]
  rw [if_pos hw]
  exact wp_append_own w s x t ho base e i z size bytes ht hi hz hsize hby hzs hsz v n xs hs hown ad m c news hx hl hnews h1 h63 hbytes hbase fun v' w' h2 h3 _ => h v' w' h2 h3
theorem flat_take (L : List Fil) : ∀ i, flat (L.take i) = (flat L).take (i * 3) := by
  induction L with
  | nil => intro i; simp [flat]
  | cons f L ih =>
    intro i
    cases i with
    | zero => simp [flat]
    | succ i => rw [List.take_succ_cons, flat_cons, flat_cons, ih, show (i + 1) * 3 = i * 3 + 1 + 1 + 1 by omega]; rfl
theorem flat_drop (L : List Fil) : ∀ i, flat (L.drop i) = (flat L).drop (i * 3) := by
  induction L with
  | nil => intro i; simp [flat]
  | cons f L ih =>
    intro i
    cases i with
    | zero => simp [flat]
    | succ i => rw [List.drop_succ_cons, flat_cons, ih, show (i + 1) * 3 = i * 3 + 1 + 1 + 1 by omega]; rfl
theorem news_take {w : World} {a : Addr} {L : List Fil} (h : ∀ j u, (flat L)[j]? = some u → w.cell? (a.add j) = some u) (i : Nat) : ∀ j u, (flat (L.take i))[j]? = some u → w.cell? (a.add j) = some u := by
  intro j u hu
  rw [flat_take, List.getElem?_take] at hu
  split at hu
  · exact h j u hu
  · cases hu
theorem news_drop {w : World} {a : Addr} {L : List Fil} (h : ∀ j u, (flat L)[j]? = some u → w.cell? (a.add j) = some u) (i : Nat) : ∀ j u, (flat (L.drop i))[j]? = some u → w.cell? ((a.add (i * 3)).add j) = some u := by
  intro j u hu
  rw [flat_drop, List.getElem?_drop] at hu
  rw [ofNat_add]
  exact h _ u hu

set_option maxHeartbeats 4000000 in
theorem out_any (A : Option Addr) (L : List Fil) (c i : Nat) (hi : i < L.length) (w : World) (hL : Fls w w.heap.size A L) (hS : Small L) (hc : L.length ≤ c) (hcm : c ≤ maxLen) :
    Calls Tryd.prog 77 #[.slice A L.length c, .int .i64 i] w fun e w' => ∃ C x, e = .returned (.slice C (L.take i ++ L.drop (i + 1)).length x) ∧ OwnF w' w.heap.size (.slice C (L.take i ++ L.drop (i + 1)).length x) (L.take i ++ L.drop (i + 1)) ∧ Below w.heap.size w w' := by
  obtain ⟨i0, hi0, hz0, hz1, hz2⟩ := info_parts infoFile
  have hn := hS.1
  unfold maxLen at hcm
  have hf : ∀ f ∈ L, f.fits := fun f h => by obtain ⟨i, hi, rfl⟩ := List.getElem_of_mem h; exact (hL.2 i hi).choose_spec.2.2.2.2.2
  obtain ⟨a, rfl, hab, _⟩ := hL.2 i hi
  have hb0 : Below w.heap.size w (w.alloc (.cells #[] 84)).drew := below_drew ((Below.refl _ _).alloc (Nat.le_refl _) _)
  have hN0 := fls_news (hL.below hb0 (Nat.le_refl _))
  have hown0 : (w.alloc (.cells #[] 84)).drew.ownsRow w.heap.size 84 3 (.slice (some ⟨w.heap.size, 0, none⟩) 0 0) 0 [] :=
    ⟨rfl, .inr ⟨w.heap.size, 0, #[], rfl, by omega, heap_alloc_new w (.cells #[] 84), Nat.le_refl _, by simp [maxLen], rfl, rfl⟩⟩
  have hi1 : (i : Int) ≤ (c : Int) := by omega
  have hi3 : (L.length : Int) ≤ (c : Int) := by omega
  obtain ⟨q, hq⟩ : ∃ q, q = i + 1 := ⟨_, rfl⟩
  have hlt : (L.take i).length = i := by simp; omega
  have hld : (L.drop q).length = L.length - q := by simp
  have hwr : IntKind.i64.wrap ((i : Int) + 1) = (q : Int) := by rw [IntWalk.i64_in _ (by omega)]; omega
  have hq2 : (q : Int) ≤ (L.length : Int) := by omega
  have hq3 : (q : Int) ≤ (c : Int) := by omega
  rw [← hq]
  have hlen : (L.take i ++ L.drop q).length = 0 + i + (L.length - q) := by rw [List.length_append, hlt, hld]; omega
  have hfl : ∀ f ∈ L.take i ++ L.drop q, f.fits := fun f h => by
    rcases List.mem_append.1 h with h | h
    · exact hf f (List.mem_of_mem_take h)
    · exact hf f (List.mem_of_mem_drop h)
  rw [hlen]
  have HQ := Lib.hid hq
  have hiq : i < q := by omega
  have hiq' : (i : Int) ≤ (q : Int) := by omega
  clear hq
  have hfin : ∀ v2 w2, w2.ownsRow w.heap.size 84 3 v2 (0 + i + (L.length - q)) (([] ++ flat (L.take i)) ++ flat (L.drop q)) → ∃ C x, v2 = .slice C (0 + i + (L.length - q)) x ∧ OwnF w2 w.heap.size (.slice C (0 + i + (L.length - q)) x) (L.take i ++ L.drop q) := by
    intro v2 w2 h
    have h2 : OwnF w2 w.heap.size v2 (L.take i ++ L.drop q) := ⟨by rw [hlen, flat_append]; simpa using h, hfl⟩
    obtain ⟨C, x, rfl, _⟩ := h2.slice
    rw [hlen] at h2
    exact ⟨C, x, by rw [hlen], h2⟩
  have HF := Lib.hid hfin
  clear hfin
  by_cases hcq : q = c
  · have e0 : L.length - q = 0 := by omega
    subst hcq
    have hqL : L.length = q := by omega
    have hq0 : ¬ q = 0 := by omega
    have e1 : L.drop q = [] := List.drop_eq_nil_of_le (by omega)
    go_enter Tryd.func77, Tryd.ntmps77
    go_wp2
    go_region_law
      (first
        | (refine step_append_any _ (by rfl) _ _ _ (by rfl) w.heap.size 84 i0 _ 3 40 Tryd.underlying48 hi0 hz0 hz1 hz2 rfl (by omega) (.slice (some ⟨w.heap.size, 0, none⟩) 0 0) 0 [] (by rfl) hown0 a i q (flat (L.take i)) (by rfl) (by rw [flat_len, hlt]) (news_take hN0 i) (flat_one _) (by unfold maxLen; omega) (by omega) (by simp) ?_; intro v1 w1 hown1 hg1)
        | (refine step_append_any _ (by rfl) _ _ _ (by rfl) w.heap.size 84 i0 _ 3 40 Tryd.underlying48 hi0 hz0 hz1 hz2 rfl (by omega) v1 (0 + i) _ (by rfl) hown1 a 0 0 [] (by rfl) (by rfl) (fun j u h => by simp at h) (fun u h => by simp at h) (by unfold maxLen; omega) (by omega) (by have := hg1.size; simp at this; omega) ?_; intro v2 w2 hown2 hg2))
    all_goals
      have hb1 : Below w.heap.size w w1 := hb0.grown hg1 (by simp) (fun k e => by simp [Value.ownBlock] at e; omega)
      have hb2 : Below w.heap.size w w2 := hb1.grown hg2 hb1.size (fun k e => (hown1.lt k e).1)
      obtain ⟨C, x, rfl, hO⟩ := HF.out v2 w2 (by rw [e0, e1]; exact hown2)
      go_wp2
      go_ret
      exact ⟨C, x, rfl, hO, hb2⟩
  · have hN1 : ∀ w1, Below w.heap.size w w1 → ∀ j u, (flat (L.drop q))[j]? = some u → w1.cell? ((a.add (q * 3)).add j) = some u := fun w1 h => news_drop (fls_news (hL.below h (Nat.le_refl _))) q
    have hcq' : ¬ c = q := fun h => hcq h.symm
    go_enter Tryd.func77, Tryd.ntmps77
    go_wp2
    go_region_law
      (first
        | (refine step_append_any _ (by rfl) _ _ _ (by rfl) w.heap.size 84 i0 _ 3 40 Tryd.underlying48 hi0 hz0 hz1 hz2 rfl (by omega) (.slice (some ⟨w.heap.size, 0, none⟩) 0 0) 0 [] (by rfl) hown0 a i c (flat (L.take i)) (by rfl) (by rw [flat_len, hlt]) (news_take hN0 i) (flat_one _) (by unfold maxLen; omega) (by omega) (by simp) ?_; intro v1 w1 hown1 hg1; have hb1 : Below w.heap.size w w1 := hb0.grown hg1 (by simp) (fun k e => by simp [Value.ownBlock] at e; omega))
        | (refine step_append_any _ (by rfl) _ _ _ (by rfl) w.heap.size 84 i0 _ 3 40 Tryd.underlying48 hi0 hz0 hz1 hz2 rfl (by omega) v1 (0 + i) _ (by rfl) hown1 (a.add (q * 3)) (L.length - q) (c - q) (flat (L.drop q)) (by rfl) (by rw [flat_len, hld]) (hN1 _ hb1) (flat_one _) (by unfold maxLen; omega) (by omega) (by have := hb1.size; omega) ?_; intro v2 w2 hown2 hg2))
    all_goals
      have hb2 : Below w.heap.size w w2 := hb1.grown hg2 hb1.size (fun k e => (hown1.lt k e).1)
      obtain ⟨C, x, rfl, hO⟩ := HF.out v2 w2 hown2
      go_wp2
      go_ret
      exact ⟨C, x, rfl, hO, hb2⟩
end Go.Proofs.YtapnmnghdgkbpaaDoor
