/- The contract of spec.l03Put: a file put into its place. -/
import Derived.Test.YtapnmnghdgkbpaaDoorFOut
import Derived.Test.YtapnmnghdgkbpaaDoorFPut
import Derived.BigQuiet
import Derived.Deep.AppendLies
namespace Go.Proofs.YtapnmnghdgkbpaaDoor
open Go.RowKit
set_option linter.unusedVariables false
set_option maxRecDepth 1000000

/-- Where a file goes, and what it leaves out. -/
theorem put_split {L : List Fil} (hR : Rising L) {f : Fil} {k : Nat} (hk : k ≤ L.length) (hlo : ∀ j (h : j < L.length), j < k → lessB L[j].name f.name = true) (hhi : ∀ h : k < L.length, lessB L[k].name f.name = false) :
    (∀ h : k < L.length, L[k].name = f.name → putL L f = L.take k ++ f :: L.drop (k + 1)) ∧ ((∀ h : k < L.length, L[k].name ≠ f.name) → putL L f = L.take k ++ f :: L.drop k) := by
  have hP : ∀ g ∈ L.take k, lessB g.name f.name = true := fun g hg => by
    obtain ⟨j, hj, rfl⟩ := List.getElem_of_mem hg
    rw [List.length_take] at hj
    rw [List.getElem_take]
    exact hlo j (by omega) (by omega)
  constructor
  · intro h he
    have h1 : putL L f = insF f (delL L L[k].name) := by unfold putL delL; rw [he]
    rw [h1, del_at hR h, ins_mid hP]
    intro g hg
    obtain ⟨j, hj, rfl⟩ := List.getElem_of_mem hg
    rw [List.length_drop] at hj
    rw [List.getElem_drop, ← he]
    exact lt_of_rising hR (by omega) (by omega)
  · intro hne
    have hgt : ∀ g ∈ L.drop k, lessB f.name g.name = true := fun g hg => by
      obtain ⟨j, hj, rfl⟩ := List.getElem_of_mem hg
      rw [List.length_drop] at hj
      rw [List.getElem_drop]
      have hkl : k < L.length := by omega
      have h0 : lessB f.name L[k].name = true := by
        rcases lessB_total (hne hkl) with h | h
        · rw [hhi hkl] at h; cases h
        · exact h
      cases j with
      | zero => exact h0
      | succ j => exact lessB_trans h0 (lt_of_rising hR (by omega) (by omega))
    have hno : ∀ g ∈ L, g.name ≠ f.name := fun g hg e => by
      rw [← List.take_append_drop k L] at hg
      rcases List.mem_append.1 hg with h | h
      · exact lessB_ne (hP g h) e
      · exact lessB_ne (hgt g h) e.symm
    have h1 : putL L f = insF f (delL L f.name) := rfl
    rw [h1, del_no hno]
    conv => lhs; rw [← List.take_append_drop k L]
    exact ins_mid hP hgt

set_option maxHeartbeats 8000000 in
theorem put_any (a : Addr) (L : List Fil) (c : Nat) (f : Fil) (w : World) (hL : Fls w w.heap.size (some a) L) (hS : Small L) (hcc : L.length ≤ c) (hcm : c ≤ maxLen) (hR : Rising L) (hff : f.fits) :
    Calls Tryd.prog 85 #[.slice (some a) L.length c, f.val] w fun e w' => ∃ C x, e = .returned (.slice C (putL L f).length x) ∧ OwnF w' w.heap.size (.slice C (putL L f).length x) (putL L f) ∧ Below w.heap.size w w' := by
  obtain ⟨i0, hi0, hz0, hz1, hz2⟩ := info_parts infoFile
  have hn := hS.1
  unfold maxLen at hcm
  have hf : ∀ f ∈ L, f.fits := fun f h => by obtain ⟨i, hi, rfl⟩ := List.getElem_of_mem h; exact (hL.2 i hi).choose_spec.2.2.2.2.2
  have hput : ∀ g ∈ putL L f, g.fits := fun g h => by
    rcases put_mem h with rfl | h
    · exact hff
    · exact hf g h
  have hspl := fun k hk h1 h2 => put_split hR (f := f) (k := k) hk h1 h2
  obtain ⟨P, HP⟩ : ∃ P, Hid (putL L f = P) := ⟨_, Lib.hid rfl⟩
  rw [HP.out] at hput hspl ⊢
  have HSP := Lib.hid hspl
  clear hspl hR
  obtain ⟨s0, s1, z⟩ := f
  unfold Fil.val
  simp only
  have hX0 := Blk.fresh w 84 [.string s0, .string s1, .int .i64 z]
  have hb0 : Below w.heap.size w (w.alloc (.cells #[.string s0, .string s1, .int .i64 z] 84)) := (Below.refl _ _).alloc (Nat.le_refl _) _
  have hz0' : (w.alloc (.cells #[.string s0, .string s1, .int .i64 z] 84)).heap.size = w.heap.size + 1 := by simp
  go_enter Tryd.func85, Tryd.ntmps85
  go_wp2
  go_loopw [5] (fun i wr => ∃ k : Nat, k ≤ L.length ∧ i = .int .i64 k ∧ (∀ j (h : j < L.length), j < k → lessB L[j].name s0 = true) ∧ Blk wr w.heap.size 84 [.string s0, .string s1, .int .i64 z] ∧ Below w.heap.size w wr) (fun i _ => L.length - (intOf i).toNat)
  case atStart => exact ⟨0, by omega, rfl, fun j _ h => by omega, hX0, hb0⟩
  case round =>
    obtain ⟨k, hk, rfl, hlo, hX, hb⟩ := hrel
    have x0 := hX.cell (i := 0) rfl
    by_cases hlt : k < L.length ∧ lessB (L[k]?.getD default).name s0 = true
    · obtain ⟨hkl, hless⟩ := hlt
      rw [List.getElem?_eq_getElem hkl, Option.getD_some] at hless
      have hlt' : (k : Int) < (L.length : Int) := by omega
      obtain ⟨a', e', hab, c0, c1, c2, _⟩ := (hL.below hb (Nat.le_refl _)).at k hkl
      cases e'
      have hd : Op.bytesLess L[k].name.toList s0.toList = true := hless
      go_wp2
      go_quiet (fail)
      go_wp2
      refine ⟨⟨k + 1, by omega, by go_num, fun j hj hjk => ?_, hX.drewN _, below_drewN hb _⟩, by simp [intOf]; omega⟩
      by_cases e : j = k
      · subst e; exact hless
      · exact hlo j hj (by omega)
    · have hhi : ∀ h : k < L.length, lessB L[k].name s0 = false := fun h => by
        cases hc : lessB L[k].name s0 with
        | false => rfl
        | true => exact absurd ⟨h, by rw [List.getElem?_eq_getElem h, Option.getD_some]; exact hc⟩ hlt
      have hsp := HSP.out k hk hlo hhi
      clear hlt
      by_cases hkl : k < L.length
      · by_cases hnm : L[k].name = s0
        · have hlt' : (k : Int) < (L.length : Int) := by omega
          have hd : Op.bytesLess L[k].name.toList s0.toList = false := hhi hkl
          have hP := hsp.1 hkl hnm
          have he : (L[k].name.toList == s0.toList) = true := by rw [hnm]; simp
          clear hnm
          have HPP := Lib.hid hP
          clear hP hsp hhi
          obtain ⟨a', e', hab, c0, c1, c2, _⟩ := (hL.below hb (Nat.le_refl _)).at k hkl
          cases e'
          have hkc : (k : Int) ≤ (c : Int) := by omega
          go_wp2
          go_quiet (fail)
          have hXq := hX.drewN nq
          have hbq := below_drewN hb nq
          generalize hWq : wr.drewN nq = wq at hXq hbq ⊢
          clear x0 hX hb c0 c1 c2
          have hql := hXq.lt
          have hb1 := hbq.alloc hbq.size (.cells #[] 84)
          have hown0 : (wq.alloc (.cells #[] 84)).ownsRow (w.heap.size + 1) 84 3 (.slice (some ⟨wq.heap.size, 0, none⟩) 0 0) 0 [] := ⟨rfl, .inr ⟨wq.heap.size, 0, #[], rfl, by omega, heap_alloc_new wq (.cells #[] 84), Nat.le_refl _, by simp [maxLen], rfl, rfl⟩⟩
          have hX1 := hXq.alloc (.cells #[] 84)
          have hlt1 : (L.take k).length = k := by simp; omega
          go_wp2_with (at_builtin; refine wpList_append_own _ rfl _ _ 48 rfl (w.heap.size + 1) 84 i0 (.agg #[.string ⟨#[]⟩, .string ⟨#[]⟩, .int .i64 0]) 3 40 Tryd.underlying48 hi0 hz0 hz1 hz2 rfl (by decide) _ _ _ rfl hown0 a k c (flat (L.take k)) rfl (by rw [flat_len, hlt1]) (news_take (fls_news (hL.below hb1 (Nat.le_refl _))) k) (flat_one _) (by unfold maxLen; omega) (by omega) (by simp; omega) ?_)
          intro v1 w1 hown1 hg1 _
          have hX2 := hX1.grown hg1 (by simp [Value.ownBlock]; omega)
          have hb2 := hb1.grown hg1 (by simpa using hb1.size) (fun j e => by simp [Value.ownBlock] at e; omega)
          have hz2' := hg1.size
          have x0 := hX2.cell (i := 0) rfl
          have x1 := hX2.cell (i := 1) rfl
          have x2 := hX2.cell (i := 2) rfl
          have hql2 := hX2.lt
          go_wp2_with (at_builtin; refine wpList_append_own _ rfl _ _ 48 rfl (w.heap.size + 1) 84 i0 (.agg #[.string ⟨#[]⟩, .string ⟨#[]⟩, .int .i64 0]) 3 40 Tryd.underlying48 hi0 hz0 hz1 hz2 rfl (by decide) _ _ _ rfl (hown1.alloc _) ⟨w1.heap.size, 0, none⟩ 1 1 [.string s0, .string s1, .int .i64 z] rfl rfl (World.news_of_block (cs := #[.string s0, .string s1, .int .i64 z]) (t := 84) (fr := (0, 0)) (heap_alloc_new w1 _)) (by simp [Value.oneCell']) (by unfold maxLen; omega) (by omega) (by simp; omega) ?_)
          intro v2 w2 hown2 hg2 _
          have hb3 := (hb2.alloc hb2.size (.cells #[.string s0, .string s1, .int .i64 z] 84)).grown hg2 (by have := hb2.size; simp; omega) (fun j e => by have := (hown1.lt j e).1; omega)
          have hX3 := (hX2.alloc (.cells #[.string s0, .string s1, .int .i64 z] 84)).grown hg2 (fun e => by have := (hown1.lt _ e.symm).1; omega)
          clear x0 x1 x2
          have x0 := hX3.cell (i := 0) rfl
          obtain ⟨a', e', hab', c0, c1, c2, _⟩ := (hL.below hb3 (Nat.le_refl _)).at k hkl
          cases e'
          go_wp2
          go_quiet (fail)
          have hbr := below_drewN hb3 nq
          have hownr : (w2.drewN nq).ownsRow (w.heap.size + 1) 84 3 v2 _ _ := hown2
          have hzr : w.heap.size + 1 ≤ (w2.drewN nq).heap.size := hX3.lt
          generalize hWr : w2.drewN nq = wz at hbr hownr hzr ⊢
          clear x0 hX3 hown2 c0 c1 c2
          obtain ⟨q, HQ⟩ : ∃ q, Hid (k + 1 = q) := ⟨_, Lib.hid rfl⟩
          have hkq : k < q ∧ q ≤ L.length := by have := HQ.out; omega
          have hwr : IntKind.i64.wrap ((k : Int) + 1) = (q : Int) := by rw [IntWalk.i64_in _ (by omega)]; have := HQ.out; omega
          have hqL : (q : Int) ≤ (L.length : Int) := by omega
          have hqc : (q : Int) ≤ (c : Int) := by omega
          have hld : (L.drop q).length = L.length - q := by simp
          have fin : ∀ v3 w3, Below w.heap.size w w3 → w3.ownsRow (w.heap.size + 1) 84 3 v3 (0 + k + 1 + (L.length - q)) (([] ++ flat (L.take k) ++ [.string s0, .string s1, .int .i64 z]) ++ flat (L.drop q)) → ∃ C x, v3 = .slice C P.length x ∧ OwnF w3 w.heap.size (.slice C P.length x) P := by
            intro v3 w3 _ h
            have h2 : OwnF w3 (w.heap.size + 1) v3 P := ⟨by rw [HPP.out, HQ.out, flat_append, flat_cons, List.length_append, List.length_cons, hlt1, hld]; have e1 : k + (L.length - q + 1) = 0 + k + 1 + (L.length - q) := (by omega); rw [e1]; simpa using h, hput⟩
            obtain ⟨C, x, rfl, _⟩ := h2.slice
            exact ⟨C, x, rfl, OwnF.base h2 (by omega)⟩
          have FIN := Lib.hid fin
          clear fin
          by_cases hcq : c = q
          · have e0 : L.length - q = 0 := by omega
            have e1 : L.drop q = [] := List.drop_eq_nil_of_le (by omega)
            go_wp2_with (at_builtin; refine wpList_append_own _ rfl _ _ 48 rfl (w.heap.size + 1) 84 i0 (.agg #[.string ⟨#[]⟩, .string ⟨#[]⟩, .int .i64 0]) 3 40 Tryd.underlying48 hi0 hz0 hz1 hz2 rfl (by decide) _ _ _ rfl hownr a 0 0 [] rfl rfl (fun j u h => by simp at h) (fun u h => by simp at h) (by unfold maxLen; omega) (by omega) hzr ?_)
            intro v3 w3 hown3 hg3 _
            have hb4 := hbr.grown hg3 hbr.size (fun j e => by have := (hownr.lt j e).1; omega)
            obtain ⟨C, x, rfl, hO⟩ := FIN.out v3 w3 hb4 (by rw [e0, e1]; simpa [flat_nil] using hown3)
            go_wp2
            go_ret
            exact ⟨C, x, rfl, hO, hb4⟩
          · have hxx : 0 = 0 := rfl
            go_wp2_with (at_builtin; refine wpList_append_own _ rfl _ _ 48 rfl (w.heap.size + 1) 84 i0 (.agg #[.string ⟨#[]⟩, .string ⟨#[]⟩, .int .i64 0]) 3 40 Tryd.underlying48 hi0 hz0 hz1 hz2 rfl (by decide) _ _ _ rfl hownr (a.add (q * 3)) (L.length - q) (c - q) (flat (L.drop q)) rfl (by rw [flat_len, hld]) (news_drop (fls_news (hL.below hbr (Nat.le_refl _))) q) (flat_one _) (by unfold maxLen; omega) (by omega) hzr ?_)
            intro v3 w3 hown3 hg3 _
            have hb4 := hbr.grown hg3 hbr.size (fun j e => by have := (hownr.lt j e).1; omega)
            obtain ⟨C, x, rfl, hO⟩ := FIN.out v3 w3 hb4 (by simpa using hown3)
            go_wp2
            go_ret
            exact ⟨C, x, rfl, hO, hb4⟩
        · have hlt' : (k : Int) < (L.length : Int) := by omega
          have hd : Op.bytesLess L[k].name.toList s0.toList = false := hhi hkl
          have hP := hsp.2 (fun _ => hnm)
          have he : (L[k].name.toList == s0.toList) = false := by rw [beq_eq_false_iff_ne]; intro e; rw [Lib.toList_data, Lib.toList_data] at e; exact hnm (bytes_inj e)
          have HPP := Lib.hid hP
          clear hP hsp hhi
          obtain ⟨a', e', hab, c0, c1, c2, _⟩ := (hL.below hb (Nat.le_refl _)).at k hkl
          cases e'
          have hkc : (k : Int) ≤ (c : Int) := by omega
          go_wp2
          go_quiet (fail)
          have hXq := hX.drewN nq
          have hbq := below_drewN hb nq
          generalize hWq : wr.drewN nq = wq at hXq hbq ⊢
          clear x0 hX hb c0 c1 c2
          have hql := hXq.lt
          have hb1 := hbq.alloc hbq.size (.cells #[] 84)
          have hown0 : (wq.alloc (.cells #[] 84)).ownsRow (w.heap.size + 1) 84 3 (.slice (some ⟨wq.heap.size, 0, none⟩) 0 0) 0 [] := ⟨rfl, .inr ⟨wq.heap.size, 0, #[], rfl, by omega, heap_alloc_new wq (.cells #[] 84), Nat.le_refl _, by simp [maxLen], rfl, rfl⟩⟩
          have hX1 := hXq.alloc (.cells #[] 84)
          have hlt1 : (L.take k).length = k := by simp; omega
          go_wp2_with (at_builtin; refine wpList_append_own _ rfl _ _ 48 rfl (w.heap.size + 1) 84 i0 (.agg #[.string ⟨#[]⟩, .string ⟨#[]⟩, .int .i64 0]) 3 40 Tryd.underlying48 hi0 hz0 hz1 hz2 rfl (by decide) _ _ _ rfl hown0 a k c (flat (L.take k)) rfl (by rw [flat_len, hlt1]) (news_take (fls_news (hL.below hb1 (Nat.le_refl _))) k) (flat_one _) (by unfold maxLen; omega) (by omega) (by simp; omega) ?_)
          intro v1 w1 hown1 hg1 _
          have hX2 := hX1.grown hg1 (by simp [Value.ownBlock]; omega)
          have hb2 := hb1.grown hg1 (by simpa using hb1.size) (fun j e => by simp [Value.ownBlock] at e; omega)
          have hz2' := hg1.size
          have x0 := hX2.cell (i := 0) rfl
          have x1 := hX2.cell (i := 1) rfl
          have x2 := hX2.cell (i := 2) rfl
          have hql2 := hX2.lt
          go_wp2_with (at_builtin; refine wpList_append_own _ rfl _ _ 48 rfl (w.heap.size + 1) 84 i0 (.agg #[.string ⟨#[]⟩, .string ⟨#[]⟩, .int .i64 0]) 3 40 Tryd.underlying48 hi0 hz0 hz1 hz2 rfl (by decide) _ _ _ rfl (hown1.alloc _) ⟨w1.heap.size, 0, none⟩ 1 1 [.string s0, .string s1, .int .i64 z] rfl rfl (World.news_of_block (cs := #[.string s0, .string s1, .int .i64 z]) (t := 84) (fr := (0, 0)) (heap_alloc_new w1 _)) (by simp [Value.oneCell']) (by unfold maxLen; omega) (by omega) (by simp; omega) ?_)
          intro v2 w2 hown2 hg2 _
          have hb3 := (hb2.alloc hb2.size (.cells #[.string s0, .string s1, .int .i64 z] 84)).grown hg2 (by have := hb2.size; simp; omega) (fun j e => by have := (hown1.lt j e).1; omega)
          have hX3 := (hX2.alloc (.cells #[.string s0, .string s1, .int .i64 z] 84)).grown hg2 (fun e => by have := (hown1.lt _ e.symm).1; omega)
          clear x0 x1 x2
          have x0 := hX3.cell (i := 0) rfl
          obtain ⟨a', e', hab', c0, c1, c2, _⟩ := (hL.below hb3 (Nat.le_refl _)).at k hkl
          cases e'
          go_wp2
          go_quiet (fail)
          have hbr := below_drewN hb3 nq
          have hownr : (w2.drewN nq).ownsRow (w.heap.size + 1) 84 3 v2 _ _ := hown2
          have hzr : w.heap.size + 1 ≤ (w2.drewN nq).heap.size := hX3.lt
          generalize hWr : w2.drewN nq = wz at hbr hownr hzr ⊢
          clear x0 hX3 hown2 c0 c1 c2
          have hqL : (k : Int) ≤ (L.length : Int) := by omega
          have hqc : (k : Int) ≤ (c : Int) := by omega
          have hld : (L.drop k).length = L.length - k := by simp
          have fin : ∀ v3 w3, Below w.heap.size w w3 → w3.ownsRow (w.heap.size + 1) 84 3 v3 (0 + k + 1 + (L.length - k)) (([] ++ flat (L.take k) ++ [.string s0, .string s1, .int .i64 z]) ++ flat (L.drop k)) → ∃ C x, v3 = .slice C P.length x ∧ OwnF w3 w.heap.size (.slice C P.length x) P := by
            intro v3 w3 _ h
            have h2 : OwnF w3 (w.heap.size + 1) v3 P := ⟨by rw [HPP.out, flat_append, flat_cons, List.length_append, List.length_cons, hlt1, hld]; have e1 : k + (L.length - k + 1) = 0 + k + 1 + (L.length - k) := (by omega); rw [e1]; simpa using h, hput⟩
            obtain ⟨C, x, rfl, _⟩ := h2.slice
            exact ⟨C, x, rfl, OwnF.base h2 (by omega)⟩
          have FIN := Lib.hid fin
          clear fin
          by_cases hcq : c = k
          · have e0 : L.length - k = 0 := by omega
            have e1 : L.drop k = [] := List.drop_eq_nil_of_le (by omega)
            go_wp2_with (at_builtin; refine wpList_append_own _ rfl _ _ 48 rfl (w.heap.size + 1) 84 i0 (.agg #[.string ⟨#[]⟩, .string ⟨#[]⟩, .int .i64 0]) 3 40 Tryd.underlying48 hi0 hz0 hz1 hz2 rfl (by decide) _ _ _ rfl hownr a 0 0 [] rfl rfl (fun j u h => by simp at h) (fun u h => by simp at h) (by unfold maxLen; omega) (by omega) hzr ?_)
            intro v3 w3 hown3 hg3 _
            have hb4 := hbr.grown hg3 hbr.size (fun j e => by have := (hownr.lt j e).1; omega)
            obtain ⟨C, x, rfl, hO⟩ := FIN.out v3 w3 hb4 (by rw [e0, e1]; simpa [flat_nil] using hown3)
            go_wp2
            go_ret
            exact ⟨C, x, rfl, hO, hb4⟩
          · have hxx : 0 = 0 := rfl
            go_wp2_with (at_builtin; refine wpList_append_own _ rfl _ _ 48 rfl (w.heap.size + 1) 84 i0 (.agg #[.string ⟨#[]⟩, .string ⟨#[]⟩, .int .i64 0]) 3 40 Tryd.underlying48 hi0 hz0 hz1 hz2 rfl (by decide) _ _ _ rfl hownr (a.add (k * 3)) (L.length - k) (c - k) (flat (L.drop k)) rfl (by rw [flat_len, hld]) (news_drop (fls_news (hL.below hbr (Nat.le_refl _))) k) (flat_one _) (by unfold maxLen; omega) (by omega) hzr ?_)
            intro v3 w3 hown3 hg3 _
            have hb4 := hbr.grown hg3 hbr.size (fun j e => by have := (hownr.lt j e).1; omega)
            obtain ⟨C, x, rfl, hO⟩ := FIN.out v3 w3 hb4 (by simpa using hown3)
            go_wp2
            go_ret
            exact ⟨C, x, rfl, hO, hb4⟩
      · obtain rfl : k = L.length := by omega
        have hP := hsp.2 (fun h => by omega)
        have HPP := Lib.hid hP
        clear hP hsp hhi
        have hkc : (L.length : Int) ≤ (c : Int) := by omega
        go_wp2
        go_quiet (fail)
        have hXq := hX.drewN nq
        have hbq := below_drewN hb nq
        generalize hWq : wr.drewN nq = wq at hXq hbq ⊢
        clear x0 hX hb
        have hql := hXq.lt
        have hb1 := hbq.alloc hbq.size (.cells #[] 84)
        have hown0 : (wq.alloc (.cells #[] 84)).ownsRow (w.heap.size + 1) 84 3 (.slice (some ⟨wq.heap.size, 0, none⟩) 0 0) 0 [] := ⟨rfl, .inr ⟨wq.heap.size, 0, #[], rfl, by omega, heap_alloc_new wq (.cells #[] 84), Nat.le_refl _, by simp [maxLen], rfl, rfl⟩⟩
        have hX1 := hXq.alloc (.cells #[] 84)
        have hlt1 : (L.take L.length).length = L.length := by simp
        go_wp2_with (at_builtin; refine wpList_append_own _ rfl _ _ 48 rfl (w.heap.size + 1) 84 i0 (.agg #[.string ⟨#[]⟩, .string ⟨#[]⟩, .int .i64 0]) 3 40 Tryd.underlying48 hi0 hz0 hz1 hz2 rfl (by decide) _ _ _ rfl hown0 a L.length c (flat (L.take L.length)) rfl (by rw [flat_len, hlt1]) (news_take (fls_news (hL.below hb1 (Nat.le_refl _))) L.length) (flat_one _) (by unfold maxLen; omega) (by omega) (by simp; omega) ?_)
        intro v1 w1 hown1 hg1 _
        have hX2 := hX1.grown hg1 (by simp [Value.ownBlock]; omega)
        have hb2 := hb1.grown hg1 (by simpa using hb1.size) (fun j e => by simp [Value.ownBlock] at e; omega)
        have hz2' := hg1.size
        have x0 := hX2.cell (i := 0) rfl
        have x1 := hX2.cell (i := 1) rfl
        have x2 := hX2.cell (i := 2) rfl
        have hql2 := hX2.lt
        go_wp2_with (at_builtin; refine wpList_append_own _ rfl _ _ 48 rfl (w.heap.size + 1) 84 i0 (.agg #[.string ⟨#[]⟩, .string ⟨#[]⟩, .int .i64 0]) 3 40 Tryd.underlying48 hi0 hz0 hz1 hz2 rfl (by decide) _ _ _ rfl (hown1.alloc _) ⟨w1.heap.size, 0, none⟩ 1 1 [.string s0, .string s1, .int .i64 z] rfl rfl (World.news_of_block (cs := #[.string s0, .string s1, .int .i64 z]) (t := 84) (fr := (0, 0)) (heap_alloc_new w1 _)) (by simp [Value.oneCell']) (by unfold maxLen; omega) (by omega) (by simp; omega) ?_)
        intro v2 w2 hown2 hg2 _
        have hb3 := (hb2.alloc hb2.size (.cells #[.string s0, .string s1, .int .i64 z] 84)).grown hg2 (by have := hb2.size; simp; omega) (fun j e => by have := (hown1.lt j e).1; omega)
        have hX3 := (hX2.alloc (.cells #[.string s0, .string s1, .int .i64 z] 84)).grown hg2 (fun e => by have := (hown1.lt _ e.symm).1; omega)
        clear x0 x1 x2
        have x0 := hX3.cell (i := 0) rfl
        go_wp2
        go_quiet (fail)
        have hbr := below_drewN hb3 nq
        have hownr : (w2.drewN nq).ownsRow (w.heap.size + 1) 84 3 v2 _ _ := hown2
        have hzr : w.heap.size + 1 ≤ (w2.drewN nq).heap.size := hX3.lt
        generalize hWr : w2.drewN nq = wz at hbr hownr hzr ⊢
        clear x0 hX3 hown2
        have hqL : (L.length : Int) ≤ (L.length : Int) := by omega
        have hqc : (L.length : Int) ≤ (c : Int) := by omega
        have hld : (L.drop L.length).length = L.length - L.length := by simp
        have fin : ∀ v3 w3, Below w.heap.size w w3 → w3.ownsRow (w.heap.size + 1) 84 3 v3 (0 + L.length + 1 + (L.length - L.length)) (([] ++ flat (L.take L.length) ++ [.string s0, .string s1, .int .i64 z]) ++ flat (L.drop L.length)) → ∃ C x, v3 = .slice C P.length x ∧ OwnF w3 w.heap.size (.slice C P.length x) P := by
          intro v3 w3 _ h
          have h2 : OwnF w3 (w.heap.size + 1) v3 P := ⟨by rw [HPP.out, flat_append, flat_cons, List.length_append, List.length_cons, hlt1, hld]; have e1 : L.length + (L.length - L.length + 1) = 0 + L.length + 1 + (L.length - L.length) := (by omega); rw [e1]; simpa using h, hput⟩
          obtain ⟨C, x, rfl, _⟩ := h2.slice
          exact ⟨C, x, rfl, OwnF.base h2 (by omega)⟩
        have FIN := Lib.hid fin
        clear fin
        by_cases hcq : c = L.length
        · have e0 : L.length - L.length = 0 := by omega
          have e1 : L.drop L.length = [] := List.drop_eq_nil_of_le (by omega)
          go_wp2_with (at_builtin; refine wpList_append_own _ rfl _ _ 48 rfl (w.heap.size + 1) 84 i0 (.agg #[.string ⟨#[]⟩, .string ⟨#[]⟩, .int .i64 0]) 3 40 Tryd.underlying48 hi0 hz0 hz1 hz2 rfl (by decide) _ _ _ rfl hownr a 0 0 [] rfl rfl (fun j u h => by simp at h) (fun u h => by simp at h) (by unfold maxLen; omega) (by omega) hzr ?_)
          intro v3 w3 hown3 hg3 _
          have hb4 := hbr.grown hg3 hbr.size (fun j e => by have := (hownr.lt j e).1; omega)
          obtain ⟨C, x, rfl, hO⟩ := FIN.out v3 w3 hb4 (by rw [e0, e1]; simpa [flat_nil] using hown3)
          go_wp2
          go_ret
          exact ⟨C, x, rfl, hO, hb4⟩
        · have hxx : 0 = 0 := rfl
          go_wp2_with (at_builtin; refine wpList_append_own _ rfl _ _ 48 rfl (w.heap.size + 1) 84 i0 (.agg #[.string ⟨#[]⟩, .string ⟨#[]⟩, .int .i64 0]) 3 40 Tryd.underlying48 hi0 hz0 hz1 hz2 rfl (by decide) _ _ _ rfl hownr (a.add (L.length * 3)) 0 (c - L.length) [] rfl rfl (fun j u h => by simp at h) (fun u h => by simp at h) (by unfold maxLen; omega) (by omega) hzr ?_)
          intro v3 w3 hown3 hg3 _
          have hb4 := hbr.grown hg3 hbr.size (fun j e => by have := (hownr.lt j e).1; omega)
          obtain ⟨C, x, rfl, hO⟩ := FIN.out v3 w3 hb4 (by rw [Nat.sub_self, List.drop_eq_nil_of_le (Nat.le_refl _)]; simpa [flat_nil] using hown3)
          go_wp2
          go_ret
          exact ⟨C, x, rfl, hO, hb4⟩
end Go.Proofs.YtapnmnghdgkbpaaDoor
