/- The contract of spec.l03Out: a file taken out of a slice of files. The contract of spec.l03Put: a file put into its place. What a good change of a file system leaves, said in plain words. -/
import Derived.Test.YtpgodphnjeifhaaGreatDoorFilCopyW
import Derived.Test.YtpgodphnjeifhaaGreatDoorFreshW
import Derived.Deep.RegionLaw
import Derived.Laws.AppendOwn
import Derived.Test.YtpgodphnjeifhaaGreatDoorFOpenW
import Derived.BigQuiet
import Derived.Deep.AppendLies
import Derived.Test.YtpgodphnjeifhaaGreatDoorFFindW
namespace Go.Proofs.YtpgodphnjeifhaaGreatDoor
open Go.RowKit
set_option linter.unusedVariables false
set_option maxRecDepth 1000000

/-- An append at a step of a region that draws its order; what is appended may be empty. -/
theorem step_append_any {P : Program} (w : World) {ops : Array Oper} {o : Oper} {a : Act} {K : Act → World → Prop} {Q : Exit → Act → World → Prop} {E : Prop} (hgd : o.guard = none) (s x : Operand) (t : TypeId)
    (ho : o.op = .call { callee := .builtin .append, args := #[s, x], argTypes := #[t, t] })
    (base : Nat) (e : TypeId) (i : TypeInfo) (z : Value) (size bytes : Nat) (ht : P.underlying t = some (.slice e)) (hi : P.info? e = some i) (hz : i.zero = some z)
    (hsize : i.size = size) (hby : i.bytes = bytes) (hzs : z.cells.size = size) (hsz : 0 < size)
    (v : Value) (n : Nat) (xs : List Value) (hs : a.eval s = v) (hown : w.ownsRow base e size v n xs)
    (ad : Addr) (m c : Nat) (news : List Value) (hx : a.eval x = .slice (some ad) m c) (hl : news.length = m * size) (hnews : ∀ j u, news[j]? = some u → w.cell? (ad.add j) = some u) (h1 : ∀ u ∈ news, u.oneCell' = true)
    (h63 : n + m ≤ maxLen) (hbytes : (n + m) * bytes ≤ 140737488355328) (hbase : base ≤ w.heap.size)
    (h : ∀ v' w', w'.ownsRow base e size v' (n + m) (xs ++ news) → w.grownBy w' v.ownBlock → K (a.put o.dst v') w') :
    if Region.wanted o (yielded ops a.tmps) = true then Oper.wp P o a w K Q else E := by
  have hw : Region.wanted o (yielded ops a.tmps) = true := by simp [Region.wanted, hgd]
  rw [if_pos hw]
  exact wp_append_own w s x t ho base e i z size bytes ht hi hz hsize hby hzs hsz v n xs hs hown ad m c news hx hl hnews h1 h63 hbytes hbase fun v' w' h2 h3 _ => h v' w' h2 h3
theorem flat_take (L : List Fil) : ∀ i, flat (L.take i) = (flat L).take (i * 3) := by
  induction L with
  | nil => intro i; simp [flat]
  | cons f L ih =>
    intro i
    cases i with
    | zero => simp [flat]
    | succ i => rw [List.take_succ_cons, flat_cons, flat_cons, ih, show (i + 1) * 3 = i * 3 + 1 + 1 + 1 by omega]; rfl
theorem flat_drop (L : List Fil) : ∀ i, flat (L.drop i) = (flat L).drop (i * 3) := by
  induction L with
  | nil => intro i; simp [flat]
  | cons f L ih =>
    intro i
    cases i with
    | zero => simp [flat]
    | succ i => rw [List.drop_succ_cons, flat_cons, ih, show (i + 1) * 3 = i * 3 + 1 + 1 + 1 by omega]; rfl
theorem news_take {w : World} {a : Addr} {L : List Fil} (h : ∀ j u, (flat L)[j]? = some u → w.cell? (a.add j) = some u) (i : Nat) : ∀ j u, (flat (L.take i))[j]? = some u → w.cell? (a.add j) = some u := by
  intro j u hu
  rw [flat_take, List.getElem?_take] at hu
  split at hu
  · exact h j u hu
  · cases hu
theorem news_drop {w : World} {a : Addr} {L : List Fil} (h : ∀ j u, (flat L)[j]? = some u → w.cell? (a.add j) = some u) (i : Nat) : ∀ j u, (flat (L.drop i))[j]? = some u → w.cell? ((a.add (i * 3)).add j) = some u := by
  intro j u hu
  rw [flat_drop, List.getElem?_drop] at hu
  rw [ofNat_add]
  exact h _ u hu

set_option maxHeartbeats 4000000 in
theorem out_any (A : Option Addr) (L : List Fil) (c i : Nat) (hi : i < L.length) (w : World) (hL : Fls w w.heap.size A L) (hS : Small L) (hc : L.length ≤ c) (hcm : c ≤ maxLen) :
    Calls Tryz.prog 55 #[.slice A L.length c, .int .i64 i] w fun e w' => ∃ C x, e = .returned (.slice C (L.take i ++ L.drop (i + 1)).length x) ∧ OwnF w' w.heap.size (.slice C (L.take i ++ L.drop (i + 1)).length x) (L.take i ++ L.drop (i + 1)) ∧ Below w.heap.size w w' := by
  obtain ⟨i0, hi0, hz0, hz1, hz2⟩ := info_parts infoFile
  have hn := hS.1
  unfold maxLen at hcm
  have hf : ∀ f ∈ L, f.fits := fun f h => by obtain ⟨i, hi, rfl⟩ := List.getElem_of_mem h; exact (hL.2 i hi).choose_spec.2.2.2.2.2
  obtain ⟨a, rfl, hab, _⟩ := hL.2 i hi
  have hb0 : Below w.heap.size w (w.alloc (.cells #[] 53)).drew := below_drew ((Below.refl _ _).alloc (Nat.le_refl _) _)
  have hN0 := fls_news (hL.below hb0 (Nat.le_refl _))
  have hown0 : (w.alloc (.cells #[] 53)).drew.ownsRow w.heap.size 53 3 (.slice (some ⟨w.heap.size, 0, none⟩) 0 0) 0 [] :=
    ⟨rfl, .inr ⟨w.heap.size, 0, #[], rfl, by omega, heap_alloc_new w (.cells #[] 53), Nat.le_refl _, by simp [maxLen], rfl, rfl⟩⟩
  have hi1 : (i : Int) ≤ (c : Int) := by omega
  have hi3 : (L.length : Int) ≤ (c : Int) := by omega
  obtain ⟨q, hq⟩ : ∃ q, q = i + 1 := ⟨_, rfl⟩
  have hlt : (L.take i).length = i := by simp; omega
  have hld : (L.drop q).length = L.length - q := by simp
  have hwr : IntKind.i64.wrap ((i : Int) + 1) = (q : Int) := by rw [IntWalk.i64_in _ (by omega)]; omega
  have hq2 : (q : Int) ≤ (L.length : Int) := by omega
  have hq3 : (q : Int) ≤ (c : Int) := by omega
  rw [← hq]
  have hlen : (L.take i ++ L.drop q).length = 0 + i + (L.length - q) := by rw [List.length_append, hlt, hld]; omega
  have hfl : ∀ f ∈ L.take i ++ L.drop q, f.fits := fun f h => by
    rcases List.mem_append.1 h with h | h
    · exact hf f (List.mem_of_mem_take h)
    · exact hf f (List.mem_of_mem_drop h)
  rw [hlen]
  have HQ := Lib.hid hq
  have hiq : i < q := by omega
  have hiq' : (i : Int) ≤ (q : Int) := by omega
  clear hq
  have hfin : ∀ v2 w2, w2.ownsRow w.heap.size 53 3 v2 (0 + i + (L.length - q)) (([] ++ flat (L.take i)) ++ flat (L.drop q)) → ∃ C x, v2 = .slice C (0 + i + (L.length - q)) x ∧ OwnF w2 w.heap.size (.slice C (0 + i + (L.length - q)) x) (L.take i ++ L.drop q) := by
    intro v2 w2 h
    have h2 : OwnF w2 w.heap.size v2 (L.take i ++ L.drop q) := ⟨by rw [hlen, flat_append]; simpa using h, hfl⟩
    obtain ⟨C, x, rfl, _⟩ := h2.slice
    rw [hlen] at h2
    exact ⟨C, x, by rw [hlen], h2⟩
  have HF := Lib.hid hfin
  clear hfin
  by_cases hcq : q = c
  · have e0 : L.length - q = 0 := by omega
    subst hcq
    have hqL : L.length = q := by omega
    have hq0 : ¬ q = 0 := by omega
    have e1 : L.drop q = [] := List.drop_eq_nil_of_le (by omega)
    go_enter Tryz.func55, Tryz.ntmps55
    go_wp2
    go_region_law
      (first
        | (refine step_append_any _ (by rfl) _ _ _ (by rfl) w.heap.size 53 i0 _ 3 40 Tryz.underlying23 hi0 hz0 hz1 hz2 rfl (by omega) (.slice (some ⟨w.heap.size, 0, none⟩) 0 0) 0 [] (by rfl) hown0 a i q (flat (L.take i)) (by rfl) (by rw [flat_len, hlt]) (news_take hN0 i) (flat_one _) (by unfold maxLen; omega) (by omega) (by simp) ?_; intro v1 w1 hown1 hg1)
        | (refine step_append_any _ (by rfl) _ _ _ (by rfl) w.heap.size 53 i0 _ 3 40 Tryz.underlying23 hi0 hz0 hz1 hz2 rfl (by omega) v1 (0 + i) _ (by rfl) hown1 a 0 0 [] (by rfl) (by rfl) (fun j u h => by simp at h) (fun u h => by simp at h) (by unfold maxLen; omega) (by omega) (by have := hg1.size; simp at this; omega) ?_; intro v2 w2 hown2 hg2))
    all_goals
      have hb1 : Below w.heap.size w w1 := hb0.grown hg1 (by simp) (fun k e => by simp [Value.ownBlock] at e; omega)
      have hb2 : Below w.heap.size w w2 := hb1.grown hg2 hb1.size (fun k e => (hown1.lt k e).1)
      obtain ⟨C, x, rfl, hO⟩ := HF.out v2 w2 (by rw [e0, e1]; exact hown2)
      go_wp2
      go_ret
      exact ⟨C, x, rfl, hO, hb2⟩
  · have hN1 : ∀ w1, Below w.heap.size w w1 → ∀ j u, (flat (L.drop q))[j]? = some u → w1.cell? ((a.add (q * 3)).add j) = some u := fun w1 h => news_drop (fls_news (hL.below h (Nat.le_refl _))) q
    have hcq' : ¬ c = q := fun h => hcq h.symm
    go_enter Tryz.func55, Tryz.ntmps55
    go_wp2
    go_region_law
      (first
        | (refine step_append_any _ (by rfl) _ _ _ (by rfl) w.heap.size 53 i0 _ 3 40 Tryz.underlying23 hi0 hz0 hz1 hz2 rfl (by omega) (.slice (some ⟨w.heap.size, 0, none⟩) 0 0) 0 [] (by rfl) hown0 a i c (flat (L.take i)) (by rfl) (by rw [flat_len, hlt]) (news_take hN0 i) (flat_one _) (by unfold maxLen; omega) (by omega) (by simp) ?_; intro v1 w1 hown1 hg1; have hb1 : Below w.heap.size w w1 := hb0.grown hg1 (by simp) (fun k e => by simp [Value.ownBlock] at e; omega))
        | (refine step_append_any _ (by rfl) _ _ _ (by rfl) w.heap.size 53 i0 _ 3 40 Tryz.underlying23 hi0 hz0 hz1 hz2 rfl (by omega) v1 (0 + i) _ (by rfl) hown1 (a.add (q * 3)) (L.length - q) (c - q) (flat (L.drop q)) (by rfl) (by rw [flat_len, hld]) (hN1 _ hb1) (flat_one _) (by unfold maxLen; omega) (by omega) (by have := hb1.size; omega) ?_; intro v2 w2 hown2 hg2))
    all_goals
      have hb2 : Below w.heap.size w w2 := hb1.grown hg2 hb1.size (fun k e => (hown1.lt k e).1)
      obtain ⟨C, x, rfl, hO⟩ := HF.out v2 w2 hown2
      go_wp2
      go_ret
      exact ⟨C, x, rfl, hO, hb2⟩
end Go.Proofs.YtpgodphnjeifhaaGreatDoor

namespace Go.Proofs.YtpgodphnjeifhaaGreatDoor
open Go.RowKit
set_option linter.unusedVariables false
set_option maxRecDepth 1000000

/-- Where a file goes, and what it leaves out. -/
theorem put_split {L : List Fil} (hR : Rising L) {f : Fil} {k : Nat} (hk : k ≤ L.length) (hlo : ∀ j (h : j < L.length), j < k → lessB L[j].name f.name = true) (hhi : ∀ h : k < L.length, lessB L[k].name f.name = false) :
    (∀ h : k < L.length, L[k].name = f.name → putL L f = L.take k ++ f :: L.drop (k + 1)) ∧ ((∀ h : k < L.length, L[k].name ≠ f.name) → putL L f = L.take k ++ f :: L.drop k) := by
  have hP : ∀ g ∈ L.take k, lessB g.name f.name = true := fun g hg => by
    obtain ⟨j, hj, rfl⟩ := List.getElem_of_mem hg
    rw [List.length_take] at hj
    rw [List.getElem_take]
    exact hlo j (by omega) (by omega)
  constructor
  · intro h he
    have h1 : putL L f = insF f (delL L L[k].name) := by unfold putL delL; rw [he]
    rw [h1, del_at hR h, ins_mid hP]
    intro g hg
    obtain ⟨j, hj, rfl⟩ := List.getElem_of_mem hg
    rw [List.length_drop] at hj
    rw [List.getElem_drop, ← he]
    exact lt_of_rising hR (by omega) (by omega)
  · intro hne
    have hgt : ∀ g ∈ L.drop k, lessB f.name g.name = true := fun g hg => by
      obtain ⟨j, hj, rfl⟩ := List.getElem_of_mem hg
      rw [List.length_drop] at hj
      rw [List.getElem_drop]
      have hkl : k < L.length := by omega
      have h0 : lessB f.name L[k].name = true := by
        rcases lessB_total (hne hkl) with h | h
        · rw [hhi hkl] at h; cases h
        · exact h
      cases j with
      | zero => exact h0
      | succ j => exact lessB_trans h0 (lt_of_rising hR (by omega) (by omega))
    have hno : ∀ g ∈ L, g.name ≠ f.name := fun g hg e => by
      rw [← List.take_append_drop k L] at hg
      rcases List.mem_append.1 hg with h | h
      · exact lessB_ne (hP g h) e
      · exact lessB_ne (hgt g h) e.symm
    have h1 : putL L f = insF f (delL L f.name) := rfl
    rw [h1, del_no hno]
    conv => lhs; rw [← List.take_append_drop k L]
    exact ins_mid hP hgt

set_option maxHeartbeats 8000000 in
theorem put_any (a : Addr) (L : List Fil) (c : Nat) (f : Fil) (w : World) (hL : Fls w w.heap.size (some a) L) (hS : Small L) (hcc : L.length ≤ c) (hcm : c ≤ maxLen) (hR : Rising L) (hff : f.fits) :
    Calls Tryz.prog 53 #[.slice (some a) L.length c, f.val] w fun e w' => ∃ C x, e = .returned (.slice C (putL L f).length x) ∧ OwnF w' w.heap.size (.slice C (putL L f).length x) (putL L f) ∧ Below w.heap.size w w' := by
  obtain ⟨i0, hi0, hz0, hz1, hz2⟩ := info_parts infoFile
  have hn := hS.1
  unfold maxLen at hcm
  have hf : ∀ f ∈ L, f.fits := fun f h => by obtain ⟨i, hi, rfl⟩ := List.getElem_of_mem h; exact (hL.2 i hi).choose_spec.2.2.2.2.2
  have hput : ∀ g ∈ putL L f, g.fits := fun g h => by
    rcases put_mem h with rfl | h
    · exact hff
    · exact hf g h
  have hspl := fun k hk h1 h2 => put_split hR (f := f) (k := k) hk h1 h2
  obtain ⟨P, HP⟩ : ∃ P, Hid (putL L f = P) := ⟨_, Lib.hid rfl⟩
  rw [HP.out] at hput hspl ⊢
  have HSP := Lib.hid hspl
  clear hspl hR
  obtain ⟨s0, s1, z⟩ := f
  unfold Fil.val
  simp only
  have hX0 := Blk.fresh w 53 [.string s0, .string s1, .int .i64 z]
  have hb0 : Below w.heap.size w (w.alloc (.cells #[.string s0, .string s1, .int .i64 z] 53)) := (Below.refl _ _).alloc (Nat.le_refl _) _
  have hz0' : (w.alloc (.cells #[.string s0, .string s1, .int .i64 z] 53)).heap.size = w.heap.size + 1 := by simp
  go_enter Tryz.func53, Tryz.ntmps53
  go_wp2
  go_loopw [5] (fun i wr => ∃ k : Nat, k ≤ L.length ∧ i = .int .i64 k ∧ (∀ j (h : j < L.length), j < k → lessB L[j].name s0 = true) ∧ Blk wr w.heap.size 53 [.string s0, .string s1, .int .i64 z] ∧ Below w.heap.size w wr) (fun i _ => L.length - (intOf i).toNat)
  case atStart => exact ⟨0, by omega, rfl, fun j _ h => by omega, hX0, hb0⟩
  case round =>
    obtain ⟨k, hk, rfl, hlo, hX, hb⟩ := hrel
    have x0 := hX.cell (i := 0) rfl
    by_cases hlt : k < L.length ∧ lessB (L[k]?.getD default).name s0 = true
    · obtain ⟨hkl, hless⟩ := hlt
      rw [List.getElem?_eq_getElem hkl, Option.getD_some] at hless
      have hlt' : (k : Int) < (L.length : Int) := by omega
      obtain ⟨a', e', hab, c0, c1, c2, _⟩ := (hL.below hb (Nat.le_refl _)).at k hkl
      cases e'
      have hd : Op.bytesLess L[k].name.toList s0.toList = true := hless
      go_wp2
      go_quiet (fail)
      go_wp2
      refine ⟨⟨k + 1, by omega, by go_num, fun j hj hjk => ?_, hX.drewN _, below_drewN hb _⟩, by simp [intOf]; omega⟩
      by_cases e : j = k
      · subst e; exact hless
      · exact hlo j hj (by omega)
    · have hhi : ∀ h : k < L.length, lessB L[k].name s0 = false := fun h => by
        cases hc : lessB L[k].name s0 with
        | false => rfl
        | true => exact absurd ⟨h, by rw [List.getElem?_eq_getElem h, Option.getD_some]; exact hc⟩ hlt
      have hsp := HSP.out k hk hlo hhi
      clear hlt
      by_cases hkl : k < L.length
      · by_cases hnm : L[k].name = s0
        · have hlt' : (k : Int) < (L.length : Int) := by omega
          have hd : Op.bytesLess L[k].name.toList s0.toList = false := hhi hkl
          have hP := hsp.1 hkl hnm
          have he : (L[k].name.toList == s0.toList) = true := by rw [hnm]; simp
          clear hnm
          have HPP := Lib.hid hP
          clear hP hsp hhi
          obtain ⟨a', e', hab, c0, c1, c2, _⟩ := (hL.below hb (Nat.le_refl _)).at k hkl
          cases e'
          have hkc : (k : Int) ≤ (c : Int) := by omega
          go_wp2
          go_quiet (fail)
          have hXq := hX.drewN nq
          have hbq := below_drewN hb nq
          generalize hWq : wr.drewN nq = wq at hXq hbq ⊢
          clear x0 hX hb c0 c1 c2
          have hql := hXq.lt
          have hb1 := hbq.alloc hbq.size (.cells #[] 53)
          have hown0 : (wq.alloc (.cells #[] 53)).ownsRow (w.heap.size + 1) 53 3 (.slice (some ⟨wq.heap.size, 0, none⟩) 0 0) 0 [] := ⟨rfl, .inr ⟨wq.heap.size, 0, #[], rfl, by omega, heap_alloc_new wq (.cells #[] 53), Nat.le_refl _, by simp [maxLen], rfl, rfl⟩⟩
          have hX1 := hXq.alloc (.cells #[] 53)
          have hlt1 : (L.take k).length = k := by simp; omega
          go_wp2_with (at_builtin; refine wpList_append_own _ rfl _ _ 23 rfl (w.heap.size + 1) 53 i0 (.agg #[.string ⟨#[]⟩, .string ⟨#[]⟩, .int .i64 0]) 3 40 Tryz.underlying23 hi0 hz0 hz1 hz2 rfl (by decide) _ _ _ rfl hown0 a k c (flat (L.take k)) rfl (by rw [flat_len, hlt1]) (news_take (fls_news (hL.below hb1 (Nat.le_refl _))) k) (flat_one _) (by unfold maxLen; omega) (by omega) (by simp; omega) ?_)
          intro v1 w1 hown1 hg1 _
          have hX2 := hX1.grown hg1 (by simp [Value.ownBlock]; omega)
          have hb2 := hb1.grown hg1 (by simpa using hb1.size) (fun j e => by simp [Value.ownBlock] at e; omega)
          have hz2' := hg1.size
          have x0 := hX2.cell (i := 0) rfl
          have x1 := hX2.cell (i := 1) rfl
          have x2 := hX2.cell (i := 2) rfl
          have hql2 := hX2.lt
          go_wp2_with (at_builtin; refine wpList_append_own _ rfl _ _ 23 rfl (w.heap.size + 1) 53 i0 (.agg #[.string ⟨#[]⟩, .string ⟨#[]⟩, .int .i64 0]) 3 40 Tryz.underlying23 hi0 hz0 hz1 hz2 rfl (by decide) _ _ _ rfl (hown1.alloc _) ⟨w1.heap.size, 0, none⟩ 1 1 [.string s0, .string s1, .int .i64 z] rfl rfl (World.news_of_block (cs := #[.string s0, .string s1, .int .i64 z]) (t := 53) (fr := (0, 0)) (heap_alloc_new w1 _)) (by simp [Value.oneCell']) (by unfold maxLen; omega) (by omega) (by simp; omega) ?_)
          intro v2 w2 hown2 hg2 _
          have hb3 := (hb2.alloc hb2.size (.cells #[.string s0, .string s1, .int .i64 z] 53)).grown hg2 (by have := hb2.size; simp; omega) (fun j e => by have := (hown1.lt j e).1; omega)
          have hX3 := (hX2.alloc (.cells #[.string s0, .string s1, .int .i64 z] 53)).grown hg2 (fun e => by have := (hown1.lt _ e.symm).1; omega)
          clear x0 x1 x2
          have x0 := hX3.cell (i := 0) rfl
          obtain ⟨a', e', hab', c0, c1, c2, _⟩ := (hL.below hb3 (Nat.le_refl _)).at k hkl
          cases e'
          go_wp2
          go_quiet (fail)
          have hbr := below_drewN hb3 nq
          have hownr : (w2.drewN nq).ownsRow (w.heap.size + 1) 53 3 v2 _ _ := hown2
          have hzr : w.heap.size + 1 ≤ (w2.drewN nq).heap.size := hX3.lt
          generalize hWr : w2.drewN nq = wz at hbr hownr hzr ⊢
          clear x0 hX3 hown2 c0 c1 c2
          obtain ⟨q, HQ⟩ : ∃ q, Hid (k + 1 = q) := ⟨_, Lib.hid rfl⟩
          have hkq : k < q ∧ q ≤ L.length := by have := HQ.out; omega
          have hwr : IntKind.i64.wrap ((k : Int) + 1) = (q : Int) := by rw [IntWalk.i64_in _ (by omega)]; have := HQ.out; omega
          have hqL : (q : Int) ≤ (L.length : Int) := by omega
          have hqc : (q : Int) ≤ (c : Int) := by omega
          have hld : (L.drop q).length = L.length - q := by simp
          have fin : ∀ v3 w3, Below w.heap.size w w3 → w3.ownsRow (w.heap.size + 1) 53 3 v3 (0 + k + 1 + (L.length - q)) (([] ++ flat (L.take k) ++ [.string s0, .string s1, .int .i64 z]) ++ flat (L.drop q)) → ∃ C x, v3 = .slice C P.length x ∧ OwnF w3 w.heap.size (.slice C P.length x) P := by
            intro v3 w3 _ h
            have h2 : OwnF w3 (w.heap.size + 1) v3 P := ⟨by rw [HPP.out, HQ.out, flat_append, flat_cons, List.length_append, List.length_cons, hlt1, hld]; have e1 : k + (L.length - q + 1) = 0 + k + 1 + (L.length - q) := (by omega); rw [e1]; simpa using h, hput⟩
            obtain ⟨C, x, rfl, _⟩ := h2.slice
            exact ⟨C, x, rfl, OwnF.base h2 (by omega)⟩
          have FIN := Lib.hid fin
          clear fin
          by_cases hcq : c = q
          · have e0 : L.length - q = 0 := by omega
            have e1 : L.drop q = [] := List.drop_eq_nil_of_le (by omega)
            go_wp2_with (at_builtin; refine wpList_append_own _ rfl _ _ 23 rfl (w.heap.size + 1) 53 i0 (.agg #[.string ⟨#[]⟩, .string ⟨#[]⟩, .int .i64 0]) 3 40 Tryz.underlying23 hi0 hz0 hz1 hz2 rfl (by decide) _ _ _ rfl hownr a 0 0 [] rfl rfl (fun j u h => by simp at h) (fun u h => by simp at h) (by unfold maxLen; omega) (by omega) hzr ?_)
            intro v3 w3 hown3 hg3 _
            have hb4 := hbr.grown hg3 hbr.size (fun j e => by have := (hownr.lt j e).1; omega)
            obtain ⟨C, x, rfl, hO⟩ := FIN.out v3 w3 hb4 (by rw [e0, e1]; simpa [flat_nil] using hown3)
            go_wp2
            go_ret
            exact ⟨C, x, rfl, hO, hb4⟩
          · have hxx : 0 = 0 := rfl
            go_wp2_with (at_builtin; refine wpList_append_own _ rfl _ _ 23 rfl (w.heap.size + 1) 53 i0 (.agg #[.string ⟨#[]⟩, .string ⟨#[]⟩, .int .i64 0]) 3 40 Tryz.underlying23 hi0 hz0 hz1 hz2 rfl (by decide) _ _ _ rfl hownr (a.add (q * 3)) (L.length - q) (c - q) (flat (L.drop q)) rfl (by rw [flat_len, hld]) (news_drop (fls_news (hL.below hbr (Nat.le_refl _))) q) (flat_one _) (by unfold maxLen; omega) (by omega) hzr ?_)
            intro v3 w3 hown3 hg3 _
            have hb4 := hbr.grown hg3 hbr.size (fun j e => by have := (hownr.lt j e).1; omega)
            obtain ⟨C, x, rfl, hO⟩ := FIN.out v3 w3 hb4 (by simpa using hown3)
            go_wp2
            go_ret
            exact ⟨C, x, rfl, hO, hb4⟩
        · have hlt' : (k : Int) < (L.length : Int) := by omega
          have hd : Op.bytesLess L[k].name.toList s0.toList = false := hhi hkl
          have hP := hsp.2 (fun _ => hnm)
          have he : (L[k].name.toList == s0.toList) = false := by rw [beq_eq_false_iff_ne]; intro e; rw [Lib.toList_data, Lib.toList_data] at e; exact hnm (bytes_inj e)
          have HPP := Lib.hid hP
          clear hP hsp hhi
          obtain ⟨a', e', hab, c0, c1, c2, _⟩ := (hL.below hb (Nat.le_refl _)).at k hkl
          cases e'
          have hkc : (k : Int) ≤ (c : Int) := by omega
          go_wp2
          go_quiet (fail)
          have hXq := hX.drewN nq
          have hbq := below_drewN hb nq
          generalize hWq : wr.drewN nq = wq at hXq hbq ⊢
          clear x0 hX hb c0 c1 c2
          have hql := hXq.lt
          have hb1 := hbq.alloc hbq.size (.cells #[] 53)
          have hown0 : (wq.alloc (.cells #[] 53)).ownsRow (w.heap.size + 1) 53 3 (.slice (some ⟨wq.heap.size, 0, none⟩) 0 0) 0 [] := ⟨rfl, .inr ⟨wq.heap.size, 0, #[], rfl, by omega, heap_alloc_new wq (.cells #[] 53), Nat.le_refl _, by simp [maxLen], rfl, rfl⟩⟩
          have hX1 := hXq.alloc (.cells #[] 53)
          have hlt1 : (L.take k).length = k := by simp; omega
          go_wp2_with (at_builtin; refine wpList_append_own _ rfl _ _ 23 rfl (w.heap.size + 1) 53 i0 (.agg #[.string ⟨#[]⟩, .string ⟨#[]⟩, .int .i64 0]) 3 40 Tryz.underlying23 hi0 hz0 hz1 hz2 rfl (by decide) _ _ _ rfl hown0 a k c (flat (L.take k)) rfl (by rw [flat_len, hlt1]) (news_take (fls_news (hL.below hb1 (Nat.le_refl _))) k) (flat_one _) (by unfold maxLen; omega) (by omega) (by simp; omega) ?_)
          intro v1 w1 hown1 hg1 _
          have hX2 := hX1.grown hg1 (by simp [Value.ownBlock]; omega)
          have hb2 := hb1.grown hg1 (by simpa using hb1.size) (fun j e => by simp [Value.ownBlock] at e; omega)
          have hz2' := hg1.size
          have x0 := hX2.cell (i := 0) rfl
          have x1 := hX2.cell (i := 1) rfl
          have x2 := hX2.cell (i := 2) rfl
          have hql2 := hX2.lt
          go_wp2_with (at_builtin; refine wpList_append_own _ rfl _ _ 23 rfl (w.heap.size + 1) 53 i0 (.agg #[.string ⟨#[]⟩, .string ⟨#[]⟩, .int .i64 0]) 3 40 Tryz.underlying23 hi0 hz0 hz1 hz2 rfl (by decide) _ _ _ rfl (hown1.alloc _) ⟨w1.heap.size, 0, none⟩ 1 1 [.string s0, .string s1, .int .i64 z] rfl rfl (World.news_of_block (cs := #[.string s0, .string s1, .int .i64 z]) (t := 53) (fr := (0, 0)) (heap_alloc_new w1 _)) (by simp [Value.oneCell']) (by unfold maxLen; omega) (by omega) (by simp; omega) ?_)
          intro v2 w2 hown2 hg2 _
          have hb3 := (hb2.alloc hb2.size (.cells #[.string s0, .string s1, .int .i64 z] 53)).grown hg2 (by have := hb2.size; simp; omega) (fun j e => by have := (hown1.lt j e).1; omega)
          have hX3 := (hX2.alloc (.cells #[.string s0, .string s1, .int .i64 z] 53)).grown hg2 (fun e => by have := (hown1.lt _ e.symm).1; omega)
          clear x0 x1 x2
          have x0 := hX3.cell (i := 0) rfl
          obtain ⟨a', e', hab', c0, c1, c2, _⟩ := (hL.below hb3 (Nat.le_refl _)).at k hkl
          cases e'
          go_wp2
          go_quiet (fail)
          have hbr := below_drewN hb3 nq
          have hownr : (w2.drewN nq).ownsRow (w.heap.size + 1) 53 3 v2 _ _ := hown2
          have hzr : w.heap.size + 1 ≤ (w2.drewN nq).heap.size := hX3.lt
          generalize hWr : w2.drewN nq = wz at hbr hownr hzr ⊢
          clear x0 hX3 hown2 c0 c1 c2
          have hqL : (k : Int) ≤ (L.length : Int) := by omega
          have hqc : (k : Int) ≤ (c : Int) := by omega
          have hld : (L.drop k).length = L.length - k := by simp
          have fin : ∀ v3 w3, Below w.heap.size w w3 → w3.ownsRow (w.heap.size + 1) 53 3 v3 (0 + k + 1 + (L.length - k)) (([] ++ flat (L.take k) ++ [.string s0, .string s1, .int .i64 z]) ++ flat (L.drop k)) → ∃ C x, v3 = .slice C P.length x ∧ OwnF w3 w.heap.size (.slice C P.length x) P := by
            intro v3 w3 _ h
            have h2 : OwnF w3 (w.heap.size + 1) v3 P := ⟨by rw [HPP.out, flat_append, flat_cons, List.length_append, List.length_cons, hlt1, hld]; have e1 : k + (L.length - k + 1) = 0 + k + 1 + (L.length - k) := (by omega); rw [e1]; simpa using h, hput⟩
            obtain ⟨C, x, rfl, _⟩ := h2.slice
            exact ⟨C, x, rfl, OwnF.base h2 (by omega)⟩
          have FIN := Lib.hid fin
          clear fin
          by_cases hcq : c = k
          · have e0 : L.length - k = 0 := by omega
            have e1 : L.drop k = [] := List.drop_eq_nil_of_le (by omega)
            go_wp2_with (at_builtin; refine wpList_append_own _ rfl _ _ 23 rfl (w.heap.size + 1) 53 i0 (.agg #[.string ⟨#[]⟩, .string ⟨#[]⟩, .int .i64 0]) 3 40 Tryz.underlying23 hi0 hz0 hz1 hz2 rfl (by decide) _ _ _ rfl hownr a 0 0 [] rfl rfl (fun j u h => by simp at h) (fun u h => by simp at h) (by unfold maxLen; omega) (by omega) hzr ?_)
            intro v3 w3 hown3 hg3 _
            have hb4 := hbr.grown hg3 hbr.size (fun j e => by have := (hownr.lt j e).1; omega)
            obtain ⟨C, x, rfl, hO⟩ := FIN.out v3 w3 hb4 (by rw [e0, e1]; simpa [flat_nil] using hown3)
            go_wp2
            go_ret
            exact ⟨C, x, rfl, hO, hb4⟩
          · have hxx : 0 = 0 := rfl
            go_wp2_with (at_builtin; refine wpList_append_own _ rfl _ _ 23 rfl (w.heap.size + 1) 53 i0 (.agg #[.string ⟨#[]⟩, .string ⟨#[]⟩, .int .i64 0]) 3 40 Tryz.underlying23 hi0 hz0 hz1 hz2 rfl (by decide) _ _ _ rfl hownr (a.add (k * 3)) (L.length - k) (c - k) (flat (L.drop k)) rfl (by rw [flat_len, hld]) (news_drop (fls_news (hL.below hbr (Nat.le_refl _))) k) (flat_one _) (by unfold maxLen; omega) (by omega) hzr ?_)
            intro v3 w3 hown3 hg3 _
            have hb4 := hbr.grown hg3 hbr.size (fun j e => by have := (hownr.lt j e).1; omega)
            obtain ⟨C, x, rfl, hO⟩ := FIN.out v3 w3 hb4 (by simpa using hown3)
            go_wp2
            go_ret
            exact ⟨C, x, rfl, hO, hb4⟩
      · obtain rfl : k = L.length := by omega
        have hP := hsp.2 (fun h => by omega)
        have HPP := Lib.hid hP
        clear hP hsp hhi
        have hkc : (L.length : Int) ≤ (c : Int) := by omega
        go_wp2
        go_quiet (fail)
        have hXq := hX.drewN nq
        have hbq := below_drewN hb nq
        generalize hWq : wr.drewN nq = wq at hXq hbq ⊢
        clear x0 hX hb
        have hql := hXq.lt
        have hb1 := hbq.alloc hbq.size (.cells #[] 53)
        have hown0 : (wq.alloc (.cells #[] 53)).ownsRow (w.heap.size + 1) 53 3 (.slice (some ⟨wq.heap.size, 0, none⟩) 0 0) 0 [] := ⟨rfl, .inr ⟨wq.heap.size, 0, #[], rfl, by omega, heap_alloc_new wq (.cells #[] 53), Nat.le_refl _, by simp [maxLen], rfl, rfl⟩⟩
        have hX1 := hXq.alloc (.cells #[] 53)
        have hlt1 : (L.take L.length).length = L.length := by simp
        go_wp2_with (at_builtin; refine wpList_append_own _ rfl _ _ 23 rfl (w.heap.size + 1) 53 i0 (.agg #[.string ⟨#[]⟩, .string ⟨#[]⟩, .int .i64 0]) 3 40 Tryz.underlying23 hi0 hz0 hz1 hz2 rfl (by decide) _ _ _ rfl hown0 a L.length c (flat (L.take L.length)) rfl (by rw [flat_len, hlt1]) (news_take (fls_news (hL.below hb1 (Nat.le_refl _))) L.length) (flat_one _) (by unfold maxLen; omega) (by omega) (by simp; omega) ?_)
        intro v1 w1 hown1 hg1 _
        have hX2 := hX1.grown hg1 (by simp [Value.ownBlock]; omega)
        have hb2 := hb1.grown hg1 (by simpa using hb1.size) (fun j e => by simp [Value.ownBlock] at e; omega)
        have hz2' := hg1.size
        have x0 := hX2.cell (i := 0) rfl
        have x1 := hX2.cell (i := 1) rfl
        have x2 := hX2.cell (i := 2) rfl
        have hql2 := hX2.lt
        go_wp2_with (at_builtin; refine wpList_append_own _ rfl _ _ 23 rfl (w.heap.size + 1) 53 i0 (.agg #[.string ⟨#[]⟩, .string ⟨#[]⟩, .int .i64 0]) 3 40 Tryz.underlying23 hi0 hz0 hz1 hz2 rfl (by decide) _ _ _ rfl (hown1.alloc _) ⟨w1.heap.size, 0, none⟩ 1 1 [.string s0, .string s1, .int .i64 z] rfl rfl (World.news_of_block (cs := #[.string s0, .string s1, .int .i64 z]) (t := 53) (fr := (0, 0)) (heap_alloc_new w1 _)) (by simp [Value.oneCell']) (by unfold maxLen; omega) (by omega) (by simp; omega) ?_)
        intro v2 w2 hown2 hg2 _
        have hb3 := (hb2.alloc hb2.size (.cells #[.string s0, .string s1, .int .i64 z] 53)).grown hg2 (by have := hb2.size; simp; omega) (fun j e => by have := (hown1.lt j e).1; omega)
        have hX3 := (hX2.alloc (.cells #[.string s0, .string s1, .int .i64 z] 53)).grown hg2 (fun e => by have := (hown1.lt _ e.symm).1; omega)
        clear x0 x1 x2
        have x0 := hX3.cell (i := 0) rfl
        go_wp2
        go_quiet (fail)
        have hbr := below_drewN hb3 nq
        have hownr : (w2.drewN nq).ownsRow (w.heap.size + 1) 53 3 v2 _ _ := hown2
        have hzr : w.heap.size + 1 ≤ (w2.drewN nq).heap.size := hX3.lt
        generalize hWr : w2.drewN nq = wz at hbr hownr hzr ⊢
        clear x0 hX3 hown2
        have hqL : (L.length : Int) ≤ (L.length : Int) := by omega
        have hqc : (L.length : Int) ≤ (c : Int) := by omega
        have hld : (L.drop L.length).length = L.length - L.length := by simp
        have fin : ∀ v3 w3, Below w.heap.size w w3 → w3.ownsRow (w.heap.size + 1) 53 3 v3 (0 + L.length + 1 + (L.length - L.length)) (([] ++ flat (L.take L.length) ++ [.string s0, .string s1, .int .i64 z]) ++ flat (L.drop L.length)) → ∃ C x, v3 = .slice C P.length x ∧ OwnF w3 w.heap.size (.slice C P.length x) P := by
          intro v3 w3 _ h
          have h2 : OwnF w3 (w.heap.size + 1) v3 P := ⟨by rw [HPP.out, flat_append, flat_cons, List.length_append, List.length_cons, hlt1, hld]; have e1 : L.length + (L.length - L.length + 1) = 0 + L.length + 1 + (L.length - L.length) := (by omega); rw [e1]; simpa using h, hput⟩
          obtain ⟨C, x, rfl, _⟩ := h2.slice
          exact ⟨C, x, rfl, OwnF.base h2 (by omega)⟩
        have FIN := Lib.hid fin
        clear fin
        by_cases hcq : c = L.length
        · have e0 : L.length - L.length = 0 := by omega
          have e1 : L.drop L.length = [] := List.drop_eq_nil_of_le (by omega)
          go_wp2_with (at_builtin; refine wpList_append_own _ rfl _ _ 23 rfl (w.heap.size + 1) 53 i0 (.agg #[.string ⟨#[]⟩, .string ⟨#[]⟩, .int .i64 0]) 3 40 Tryz.underlying23 hi0 hz0 hz1 hz2 rfl (by decide) _ _ _ rfl hownr a 0 0 [] rfl rfl (fun j u h => by simp at h) (fun u h => by simp at h) (by unfold maxLen; omega) (by omega) hzr ?_)
          intro v3 w3 hown3 hg3 _
          have hb4 := hbr.grown hg3 hbr.size (fun j e => by have := (hownr.lt j e).1; omega)
          obtain ⟨C, x, rfl, hO⟩ := FIN.out v3 w3 hb4 (by rw [e0, e1]; simpa [flat_nil] using hown3)
          go_wp2
          go_ret
          exact ⟨C, x, rfl, hO, hb4⟩
        · have hxx : 0 = 0 := rfl
          go_wp2_with (at_builtin; refine wpList_append_own _ rfl _ _ 23 rfl (w.heap.size + 1) 53 i0 (.agg #[.string ⟨#[]⟩, .string ⟨#[]⟩, .int .i64 0]) 3 40 Tryz.underlying23 hi0 hz0 hz1 hz2 rfl (by decide) _ _ _ rfl hownr (a.add (L.length * 3)) 0 (c - L.length) [] rfl rfl (fun j u h => by simp at h) (fun u h => by simp at h) (by unfold maxLen; omega) (by omega) hzr ?_)
          intro v3 w3 hown3 hg3 _
          have hb4 := hbr.grown hg3 hbr.size (fun j e => by have := (hownr.lt j e).1; omega)
          obtain ⟨C, x, rfl, hO⟩ := FIN.out v3 w3 hb4 (by rw [Nat.sub_self, List.drop_eq_nil_of_le (Nat.le_refl _)]; simpa [flat_nil] using hown3)
          go_wp2
          go_ret
          exact ⟨C, x, rfl, hO, hb4⟩
end Go.Proofs.YtpgodphnjeifhaaGreatDoor

namespace Go.Proofs.YtpgodphnjeifhaaGreatDoor

/-- What a good FsAppend leaves. -/
def ApHow (L : List Fil) (s t : ByteArray) (M : List Fil) : Prop := fsOK L = true ∧ nameB s = true ∧
  ((findF L s = none ∧ L.length < 12 ∧ t.size ≤ 3000 ∧ M = putL L ⟨s, ⟨#[]⟩ ++ t, 0⟩) ∨ ∃ f, findF L s = some f ∧ f.data.size + t.size ≤ 3000 ∧ M = putL L ⟨f.name, f.data ++ t, f.sync⟩)
def RnHow (L : List Fil) (s t : ByteArray) (M : List Fil) : Prop := fsOK L = true ∧ nameB t = true ∧ ∃ f, findF L s = some f ∧ M = putL (delL L s) ⟨t, f.data, f.sync⟩
def RmHow (L : List Fil) (s : ByteArray) (M : List Fil) : Prop := fsOK L = true ∧ ∃ f, findF L s = some f ∧ M = delL L s

end Go.Proofs.YtpgodphnjeifhaaGreatDoor
