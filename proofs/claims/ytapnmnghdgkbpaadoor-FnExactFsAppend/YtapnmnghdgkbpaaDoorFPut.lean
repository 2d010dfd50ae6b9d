/- Plain facts on putting a file into its place among rising ones. -/
import Derived.Test.YtapnmnghdgkbpaaDoorFMap
import Derived.Test.YtapnmnghdgkbpaaDoorFilOwn
namespace Go.Proofs.YtapnmnghdgkbpaaDoor
open Go.RowKit
set_option linter.unusedVariables false

theorem lt_of_rising {L : List Fil} (hR : Rising L) {i j : Nat} (hij : i < j) (hj : j < L.length) : lessB L[i].name L[j].name = true := List.pairwise_iff_getElem.1 hR i j (by omega) hj hij
theorem name_ne {L : List Fil} (hR : Rising L) {i j : Nat} (hi : i < L.length) (hj : j < L.length) (h : i ≠ j) : L[i].name ≠ L[j].name := by
  rcases Nat.lt_or_gt_of_ne h with h | h
  · exact lessB_ne (lt_of_rising hR h hj)
  · exact (lessB_ne (lt_of_rising hR h hi)).symm
theorem del_at {L : List Fil} (hR : Rising L) {i : Nat} (hi : i < L.length) : delL L L[i].name = L.take i ++ L.drop (i + 1) := by
  have hlt : ∀ j (hj : j < L.length), j ≠ i → L[j].name ≠ L[i].name := fun j hj h => name_ne hR hj hi h
  have hsp : L.filter (fun g => !decide (g.name = L[i].name)) = (L.take i ++ L[i] :: L.drop (i + 1)).filter (fun g => !decide (g.name = L[i].name)) := by
    rw [← List.drop_eq_getElem_cons hi, List.take_append_drop]
  unfold delL
  rw [hsp, List.filter_append, List.filter_cons_of_neg (by simp)]
  congr 1
  · rw [List.filter_eq_self]
    intro a ha
    obtain ⟨j, hj, rfl⟩ := List.getElem_of_mem ha
    rw [List.length_take] at hj
    rw [List.getElem_take]
    simpa using hlt j (by omega) (by omega)
  · rw [List.filter_eq_self]
    intro a ha
    obtain ⟨j, hj, rfl⟩ := List.getElem_of_mem ha
    rw [List.length_drop] at hj
    rw [List.getElem_drop]
    simpa using hlt (i + 1 + j) (by omega) (by omega)
theorem del_no {L : List Fil} {s : ByteArray} (h : ∀ g ∈ L, g.name ≠ s) : delL L s = L := by
  unfold delL
  rw [List.filter_eq_self]
  intro a ha
  simpa using h a ha
/-- Put behind the lesser ones and ahead of the greater ones. -/
theorem ins_mid {P Q : List Fil} {f : Fil} (hP : ∀ g ∈ P, lessB g.name f.name = true) (hQ : ∀ g ∈ Q, lessB f.name g.name = true) : insF f (P ++ Q) = P ++ f :: Q := by
  induction P with
  | nil =>
    cases Q with
    | nil => rfl
    | cons g r => simp only [List.nil_append, insF]; rw [if_pos (hQ g (by simp))]
  | cons g P ih =>
    simp only [List.cons_append, insF]
    have hg := lessB_asymm (hP g (by simp))
    rw [if_neg (by rw [hg]; decide), ih (fun x hx => hP x (by simp [hx]))]
theorem put_at {L : List Fil} (hR : Rising L) {i : Nat} (hi : i < L.length) {f : Fil} (hf : f.name = L[i].name) : putL L f = L.set i f := by
  have h1 : putL L f = insF f (delL L L[i].name) := by unfold putL delL; rw [hf]
  rw [h1, del_at hR hi, ins_mid]
  · rw [List.set_eq_take_append_cons_drop, if_pos hi]
  · intro g hg
    obtain ⟨j, hj, rfl⟩ := List.getElem_of_mem hg
    rw [List.length_take] at hj
    rw [List.getElem_take, hf]
    exact lt_of_rising hR (by omega) hi
  · intro g hg
    obtain ⟨j, hj, rfl⟩ := List.getElem_of_mem hg
    rw [List.length_drop] at hj
    rw [List.getElem_drop, hf]
    exact lt_of_rising hR (by omega) (by omega)
theorem rising_set {L : List Fil} (hR : Rising L) {i : Nat} (hi : i < L.length) {f : Fil} (hf : f.name = L[i].name) : Rising (L.set i f) := by
  unfold Rising
  rw [List.pairwise_iff_getElem]
  intro a b ha hb hab
  have hb' : b < L.length := by simpa using hb
  rw [List.getElem_set, List.getElem_set]
  split
  · subst i
    rw [if_neg (by omega), hf]
    exact lt_of_rising hR hab hb'
  · split
    · subst i
      rw [hf]; exact lt_of_rising hR hab hb'
    · exact lt_of_rising hR hab hb'
theorem rising_del {L : List Fil} (hR : Rising L) (s : ByteArray) : Rising (delL L s) := List.Pairwise.filter _ hR
theorem del_mem {L : List Fil} {s : ByteArray} {g : Fil} (h : g ∈ delL L s) : g ∈ L ∧ g.name ≠ s := by
  unfold delL at h
  rw [List.mem_filter] at h
  exact ⟨h.1, by simpa using h.2⟩
theorem ins_mem {L : List Fil} {f g : Fil} (h : g ∈ insF f L) : g = f ∨ g ∈ L := by
  induction L with
  | nil => simp [insF] at h; exact .inl h
  | cons x r ih =>
    simp only [insF] at h
    split at h
    · rcases List.mem_cons.1 h with h | h
      · exact .inl h
      · exact .inr h
    · rcases List.mem_cons.1 h with h | h
      · exact .inr (by simp [h])
      · rcases ih h with h | h
        · exact .inl h
        · exact .inr (by simp [h])
theorem put_mem {L : List Fil} {f g : Fil} (h : g ∈ putL L f) : g = f ∨ g ∈ L := by
  unfold putL at h
  rcases ins_mem h with h | h
  · exact .inl h
  · exact .inr (List.mem_filter.1 h).1
theorem ins_len (f : Fil) (L : List Fil) : (insF f L).length = L.length + 1 := by
  induction L with
  | nil => rfl
  | cons g r ih =>
    simp only [insF]
    split
    · simp
    · simp [ih]
theorem put_len (L : List Fil) (f : Fil) : (putL L f).length ≤ L.length + 1 := by
  unfold putL
  rw [ins_len]
  have := List.length_filter_le (fun g => !decide (g.name = f.name)) L
  omega
theorem rising_ins {L : List Fil} (hR : Rising L) {f : Fil} (hf : ∀ g ∈ L, g.name ≠ f.name) : Rising (insF f L) := by
  induction L with
  | nil => exact List.pairwise_singleton _ _
  | cons g r ih =>
    obtain ⟨h1, h2⟩ := List.pairwise_cons.1 hR
    simp only [insF]
    split
    · rename_i hlt
      refine List.Pairwise.cons (fun x hx => ?_) hR
      rcases List.mem_cons.1 hx with rfl | hx
      · exact hlt
      · exact lessB_trans hlt (h1 x hx)
    · rename_i hnlt
      refine List.Pairwise.cons (fun x hx => ?_) (ih h2 (fun x hx => hf x (by simp [hx])))
      rcases ins_mem hx with rfl | hx
      · rcases lessB_total (hf g (by simp)) with h | h
        · exact h
        · exact absurd h hnlt
      · exact h1 x hx
theorem rising_put {L : List Fil} (hR : Rising L) (f : Fil) : Rising (putL L f) := by
  unfold putL
  refine rising_ins (List.Pairwise.filter _ hR) (fun g hg => ?_)
  have := (List.mem_filter.1 hg).2
  simpa using this
theorem small_of {L M : List Fil} (hM : M.length ≤ 1048576) (h : ∀ g ∈ M, g.name.size ≤ 1048576 ∧ g.data.size ≤ 1048576) : Small M := ⟨hM, fun i hi => h _ (List.getElem_mem hi)⟩
theorem small_mem {L : List Fil} (h : Small L) {g : Fil} (hg : g ∈ L) : g.name.size ≤ 1048576 ∧ g.data.size ≤ 1048576 := by
  obtain ⟨i, hi, rfl⟩ := List.getElem_of_mem hg
  exact h.2 i hi
theorem set_same {α : Type} {l : List α} {i : Nat} {x : α} (h : l[i]? = some x) : l.set i x = l := by
  apply List.ext_getElem?
  intro j
  rw [List.getElem?_set]
  split
  · subst i
    split
    · exact h.symm
    · rename_i h2; rw [List.getElem?_eq_none (by omega)] at h; cases h
  · rfl
/-- The third cell of a file put anew. -/
theorem flat_sync {L : List Fil} {i : Nat} (hi : i < L.length) (k : Int) : (flat L).set (i * 3 + 2) (.int .i64 k) = flat (L.set i ⟨L[i].name, L[i].data, k⟩) := by
  rw [← flat_set]
  simp only
  rw [set_same (i := i * 3) (flat_get L i hi 0 (by omega)), set_same (flat_get L i hi 1 (by omega))]
/-- The second and third cell of a file put anew. -/
theorem flat_two {L : List Fil} {i : Nat} (hi : i < L.length) (d : ByteArray) (k : Int) : ((flat L).set (i * 3 + 1) (.string d)).set (i * 3 + 2) (.int .i64 k) = flat (L.set i ⟨L[i].name, d, k⟩) := by
  rw [← flat_set]
  simp only
  rw [set_same (i := i * 3) (flat_get L i hi 0 (by omega))]
end Go.Proofs.YtapnmnghdgkbpaaDoor
