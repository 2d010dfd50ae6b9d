/- The contract of freshFile: a file's copy. Plain facts on putting a file into its place among rising ones. The contract of impl.FsRight. -/
import Derived.Test.YtebkblmejkkhfaaGreatDoorFilOwnW
import Derived.Test.YtebkblmejkkhfaaGreatDoorCloneW
import Derived.Deep.RegionHeld3
import Derived.RegionTactic
import Derived.Test.YtebkblmejkkhfaaGreatDoorIsW
namespace Go.Proofs.YtebkblmejkkhfaaGreatDoor
open Go.RowKit
set_option linter.unusedVariables false
set_option maxRecDepth 1000000

theorem kept_froz {w W : World} {a : Addr} {v : Value} (h : Below w.heap.size w W) (hc : w.cell? a = some v) (hf : w.frozen? a = false) : W.frozen? a = false := by
  rw [← hf]; exact World.frozen?_of_block (h.block _ (World.block_lt_of_cell? w a hc))

set_option maxHeartbeats 4000000 in
set_option maxRecDepth 1000000 in
theorem freshFile_any (f : Fil) (w : World) (h0 : f.name.size ≤ 1048576) (h1 : f.data.size ≤ 1048576) : Calls Tryz.prog 97 #[f.val] w fun e w' => e = .returned f.val ∧ Below w.heap.size w w' := by
  obtain ⟨s0, s1, k⟩ := f
  simp only at h0 h1
  unfold Fil.val
  simp only
  have hA0 := (Blk.fresh w 53 [.string s0, .string s1, .int .i64 k]).alloc (.cells #[.string ⟨#[]⟩, .string ⟨#[]⟩, .int .i64 0] 53)
  have hB0 := Blk.fresh (w.alloc (.cells #[.string s0, .string s1, .int .i64 k] 53)) 53 [.string ⟨#[]⟩, .string ⟨#[]⟩, .int .i64 0]
  simp only [World.size_alloc] at hB0
  have hb0 : Below w.heap.size w ((w.alloc (.cells #[.string s0, .string s1, .int .i64 k] 53)).alloc (.cells #[.string ⟨#[]⟩, .string ⟨#[]⟩, .int .i64 0] 53)) := ((Below.refl _ _).alloc (Nat.le_refl _) _).alloc (by simp) _
  go_enter Tryz.func97, Tryz.ntmps97
  go_wp2
  generalize (w.alloc (.cells #[.string s0, .string s1, .int .i64 k] 53)).alloc (.cells #[.string ⟨#[]⟩, .string ⟨#[]⟩, .int .i64 0] 53) = v0 at hA0 hB0 hb0 ⊢
  have key : ∀ W W' : World, (W.cell? ⟨w.heap.size, 0, none⟩ = some (.string s0) ∧ W.cell? ⟨w.heap.size, 1, none⟩ = some (.string s1) ∧ W.cell? ⟨w.heap.size, 2, none⟩ = some (.int .i64 k)) → Below W.heap.size W W' → (W'.cell? ⟨w.heap.size, 0, none⟩ = some (.string s0) ∧ W'.cell? ⟨w.heap.size, 1, none⟩ = some (.string s1) ∧ W'.cell? ⟨w.heap.size, 2, none⟩ = some (.int .i64 k)) :=
    fun W W' ⟨a, b, c⟩ hb => ⟨kept_cell hb a, kept_cell hb b, kept_cell hb c⟩
  have x0 := hA0.drew.cell (i := 0) rfl
  have x1 := hA0.drew.cell (i := 1) rfl
  have x2 := hA0.drew.cell (i := 2) rfl
  have hB0d := hB0.drew
  have hb0d := below_drew hb0
  go_region_held3 (fun W => W.cell? ⟨w.heap.size, 0, none⟩ = some (.string s0) ∧ W.cell? ⟨w.heap.size, 1, none⟩ = some (.string s1) ∧ W.cell? ⟨w.heap.size, 2, none⟩ = some (.int .i64 k))
    (first
      | exact ⟨x0, x1, x2⟩
      | exact key _ _ (by assumption) hb1
      | exact key _ _ (by assumption) hb2
      | go_keep)
    (first
      | (go_at_call 86; refine (clone_any s0 _ h0).mono ?_; rintro e w1 ⟨rfl, hb1⟩; have hB1 := hB0d.below hb1 hB0d.lt)
      | (go_at_call 86; refine (clone_any s1 _ h1).mono ?_; rintro e w2 ⟨rfl, hb2⟩; have hB2 := hB1.below hb2 hB1.lt; have t0 := hB2.cell (i := 0) rfl; have t1 := hB2.cell (i := 1) rfl; have t2 := hB2.cell (i := 2) rfl; have f0 := hB2.froz 0; have f1 := hB2.froz 1; have f2 := hB2.froz 2))
  have hw2 : Below w.heap.size w w2 := (hb0d.trans (hb1.mono hb0d.size)).trans (hb2.mono (Nat.le_trans hb0d.size hb1.size))
  have hp := ((hB2.put 0 (.string s0)).put 1 (.string s1)).put 2 (.int .i64 k)
  have k0 := hp.cell (i := 0) rfl
  have k1 := hp.cell (i := 1) rfl
  have k2 := hp.cell (i := 2) rfl
  clear t0 t1 t2 f0 f1 f2
  go_wp2
  refine bodyPost_ret (v := .agg #[.string s0, .string s1, .int .i64 k]) (by simp only [results, Tryz.results97]; simp [go_sem, k0, k1, k2]) rfl ⟨rfl, ?_⟩
  exact ((hw2.setCell (by simp) _).setCell (by simp) _).setCell (by simp) _

theorem syncedFile_any (f : Fil) (w : World) (hf : f.fits) : Calls Tryz.prog 113 #[f.val] w fun e w' => e = .returned (Fil.val ⟨f.name, f.data, (f.data.size : Int)⟩) ∧ Below w.heap.size w w' := by
  obtain ⟨s0, s1, k⟩ := f
  have h1 := hf.2.1
  simp only at h1
  unfold maxLen at h1
  unfold Fil.val
  simp only
  go_enter Tryz.func113, Tryz.ntmps113
  go_wp2
  refine bodyPost_ret (v := .agg #[.string s0, .string s1, .int .i64 s1.size]) (by simp [results, Tryz.results113, go_sem]) rfl ⟨rfl, ?_⟩
  exact ((Below.refl _ _).alloc (Nat.le_refl _) _).alloc (by simp) _
end Go.Proofs.YtebkblmejkkhfaaGreatDoor

namespace Go.Proofs.YtebkblmejkkhfaaGreatDoor
open Go.RowKit
set_option linter.unusedVariables false

theorem lt_of_rising {L : List Fil} (hR : Rising L) {i j : Nat} (hij : i < j) (hj : j < L.length) : lessB L[i].name L[j].name = true := List.pairwise_iff_getElem.1 hR i j (by omega) hj hij
theorem name_ne {L : List Fil} (hR : Rising L) {i j : Nat} (hi : i < L.length) (hj : j < L.length) (h : i ≠ j) : L[i].name ≠ L[j].name := by
  rcases Nat.lt_or_gt_of_ne h with h | h
  · exact lessB_ne (lt_of_rising hR h hj)
  · exact (lessB_ne (lt_of_rising hR h hi)).symm
theorem del_at {L : List Fil} (hR : Rising L) {i : Nat} (hi : i < L.length) : delL L L[i].name = L.take i ++ L.drop (i + 1) := by
  have hlt : ∀ j (hj : j < L.length), j ≠ i → L[j].name ≠ L[i].name := fun j hj h => name_ne hR hj hi h
  have hsp : L.filter (fun g => !decide (g.name = L[i].name)) = (L.take i ++ L[i] :: L.drop (i + 1)).filter (fun g => !decide (g.name = L[i].name)) := by
    rw [← List.drop_eq_getElem_cons hi, List.take_append_drop]
  unfold delL
  rw [hsp, List.filter_append, List.filter_cons_of_neg (by simp)]
  congr 1
  · rw [List.filter_eq_self]
    intro a ha
    obtain ⟨j, hj, rfl⟩ := List.getElem_of_mem ha
    rw [List.length_take] at hj
    rw [List.getElem_take]
    simpa using hlt j (by omega) (by omega)
  · rw [List.filter_eq_self]
    intro a ha
    obtain ⟨j, hj, rfl⟩ := List.getElem_of_mem ha
    rw [List.length_drop] at hj
    rw [List.getElem_drop]
    simpa using hlt (i + 1 + j) (by omega) (by omega)
theorem del_no {L : List Fil} {s : ByteArray} (h : ∀ g ∈ L, g.name ≠ s) : delL L s = L := by
  unfold delL
  rw [List.filter_eq_self]
  intro a ha
  simpa using h a ha
/-- Put behind the lesser ones and ahead of the greater ones. -/
theorem ins_mid {P Q : List Fil} {f : Fil} (hP : ∀ g ∈ P, lessB g.name f.name = true) (hQ : ∀ g ∈ Q, lessB f.name g.name = true) : insF f (P ++ Q) = P ++ f :: Q := by
  induction P with
  | nil =>
    cases Q with
    | nil => rfl
    | cons g r => simp only [List.nil_append, insF]; rw [if_pos (hQ g (by simp))]
  | cons g P ih =>
    simp only [List.cons_append, insF]
    have hg := lessB_asymm (hP g (by simp))
    rw [if_neg (by rw [hg]; decide), ih (fun x hx => hP x (by simp [hx]))]
theorem put_at {L : List Fil} (hR : Rising L) {i : Nat} (hi : i < L.length) {f : Fil} (hf : f.name = L[i].name) : putL L f = L.set i f := by
  have h1 : putL L f = insF f (delL L L[i].name) := by unfold putL delL; rw [hf]
  rw [h1, del_at hR hi, ins_mid]
  · rw [List.set_eq_take_append_cons_drop, if_pos hi]
  · intro g hg
    obtain ⟨j, hj, rfl⟩ := List.getElem_of_mem hg
    rw [List.length_take] at hj
    rw [List.getElem_take, hf]
    exact lt_of_rising hR (by omega) hi
  · intro g hg
    obtain ⟨j, hj, rfl⟩ := List.getElem_of_mem hg
    rw [List.length_drop] at hj
    rw [List.getElem_drop, hf]
    exact lt_of_rising hR (by omega) (by omega)
theorem rising_set {L : List Fil} (hR : Rising L) {i : Nat} (hi : i < L.length) {f : Fil} (hf : f.name = L[i].name) : Rising (L.set i f) := by
  unfold Rising
  rw [List.pairwise_iff_getElem]
  intro a b ha hb hab
  have hb' : b < L.length := by simpa using hb
  rw [List.getElem_set, List.getElem_set]
  split
  · subst i
    rw [if_neg (by omega), hf]
    exact lt_of_rising hR hab hb'
  · split
    · subst i
      rw [hf]; exact lt_of_rising hR hab hb'
    · exact lt_of_rising hR hab hb'
theorem rising_del {L : List Fil} (hR : Rising L) (s : ByteArray) : Rising (delL L s) := List.Pairwise.filter _ hR
theorem del_mem {L : List Fil} {s : ByteArray} {g : Fil} (h : g ∈ delL L s) : g ∈ L ∧ g.name ≠ s := by
  unfold delL at h
  rw [List.mem_filter] at h
  exact ⟨h.1, by simpa using h.2⟩
theorem ins_mem {L : List Fil} {f g : Fil} (h : g ∈ insF f L) : g = f ∨ g ∈ L := by
  induction L with
  | nil => simp [insF] at h; exact .inl h
  | cons x r ih =>
    simp only [insF] at h
    split at h
    · rcases List.mem_cons.1 h with h | h
      · exact .inl h
      · exact .inr h
    · rcases List.mem_cons.1 h with h | h
      · exact .inr (by simp [h])
      · rcases ih h with h | h
        · exact .inl h
        · exact .inr (by simp [h])
theorem put_mem {L : List Fil} {f g : Fil} (h : g ∈ putL L f) : g = f ∨ g ∈ L := by
  unfold putL at h
  rcases ins_mem h with h | h
  · exact .inl h
  · exact .inr (List.mem_filter.1 h).1
theorem ins_len (f : Fil) (L : List Fil) : (insF f L).length = L.length + 1 := by
  induction L with
  | nil => rfl
  | cons g r ih =>
    simp only [insF]
    split
    · simp
    · simp [ih]
theorem put_len (L : List Fil) (f : Fil) : (putL L f).length ≤ L.length + 1 := by
  unfold putL
  rw [ins_len]
  have := List.length_filter_le (fun g => !decide (g.name = f.name)) L
  omega
theorem rising_ins {L : List Fil} (hR : Rising L) {f : Fil} (hf : ∀ g ∈ L, g.name ≠ f.name) : Rising (insF f L) := by
  induction L with
  | nil => exact List.pairwise_singleton _ _
  | cons g r ih =>
    obtain ⟨h1, h2⟩ := List.pairwise_cons.1 hR
    simp only [insF]
    split
    · rename_i hlt
      refine List.Pairwise.cons (fun x hx => ?_) hR
      rcases List.mem_cons.1 hx with rfl | hx
      · exact hlt
      · exact lessB_trans hlt (h1 x hx)
    · rename_i hnlt
      refine List.Pairwise.cons (fun x hx => ?_) (ih h2 (fun x hx => hf x (by simp [hx])))
      rcases ins_mem hx with rfl | hx
      · rcases lessB_total (hf g (by simp)) with h | h
        · exact h
        · exact absurd h hnlt
      · exact h1 x hx
theorem rising_put {L : List Fil} (hR : Rising L) (f : Fil) : Rising (putL L f) := by
  unfold putL
  refine rising_ins (List.Pairwise.filter _ hR) (fun g hg => ?_)
  have := (List.mem_filter.1 hg).2
  simpa using this
theorem small_of {L M : List Fil} (hM : M.length ≤ 1048576) (h : ∀ g ∈ M, g.name.size ≤ 1048576 ∧ g.data.size ≤ 1048576) : Small M := ⟨hM, fun i hi => h _ (List.getElem_mem hi)⟩
theorem small_nil : Small [] := ⟨by simp, fun i h => absurd h (by simp)⟩
theorem small_mem {L : List Fil} (h : Small L) {g : Fil} (hg : g ∈ L) : g.name.size ≤ 1048576 ∧ g.data.size ≤ 1048576 := by
  obtain ⟨i, hi, rfl⟩ := List.getElem_of_mem hg
  exact h.2 i hi
theorem set_same {α : Type} {l : List α} {i : Nat} {x : α} (h : l[i]? = some x) : l.set i x = l := by
  apply List.ext_getElem?
  intro j
  rw [List.getElem?_set]
  split
  · subst i
    split
    · exact h.symm
    · rename_i h2; rw [List.getElem?_eq_none (by omega)] at h; cases h
  · rfl
/-- The third cell of a file put anew. -/
theorem flat_sync {L : List Fil} {i : Nat} (hi : i < L.length) (k : Int) : (flat L).set (i * 3 + 2) (.int .i64 k) = flat (L.set i ⟨L[i].name, L[i].data, k⟩) := by
  rw [← flat_set]
  simp only
  rw [set_same (i := i * 3) (flat_get L i hi 0 (by omega)), set_same (flat_get L i hi 1 (by omega))]
/-- The second and third cell of a file put anew. -/
theorem flat_two {L : List Fil} {i : Nat} (hi : i < L.length) (d : ByteArray) (k : Int) : ((flat L).set (i * 3 + 1) (.string d)).set (i * 3 + 2) (.int .i64 k) = flat (L.set i ⟨L[i].name, d, k⟩) := by
  rw [← flat_set]
  simp only
  rw [set_same (i := i * 3) (flat_get L i hi 0 (by omega))]
end Go.Proofs.YtebkblmejkkhfaaGreatDoor

namespace Go.Proofs.YtebkblmejkkhfaaGreatDoor
open Go.RowKit
set_option linter.unusedVariables false

set_option maxHeartbeats 1000000 in
theorem fileRight_any (f : Fil) (w : World) (hf : f.fits) : Calls Tryz.prog 92 #[f.val] w fun e w' => e = .returned (.bool (okF f)) ∧ Below w.heap.size w w' := by
  obtain ⟨s0, s1, k⟩ := f
  obtain ⟨q0, q1, q2, q3⟩ := hf
  simp only at q0 q1 q2 q3
  have q1' := q1
  unfold maxLen at q1
  unfold Fil.val
  simp only
  rcases Bool.eq_false_or_eq_true (nameB s0) with hN | hN
  · have NR : ∀ W, Calls Tryz.prog 131 #[.string s0] W fun e w' => e = .returned (.bool true) ∧ W = w' := fun W => by have := implNameRight_any s0 W q0; rw [hN] at this; exact this
    by_cases h1 : s1.size ≤ 3000
    · by_cases h2 : 0 ≤ k
      · by_cases h3 : k ≤ s1.size
        all_goals
          go_enter Tryz.func92, Tryz.ntmps92
          go_wp2_with (go_at_call 131; refine (NR _).mono ?_; rintro e w' ⟨rfl, rfl⟩)
          go_ret
          exact ⟨retB (by simp [okF, hN]; omega), (Below.refl _ _).alloc (Nat.le_refl _) _⟩
      · go_enter Tryz.func92, Tryz.ntmps92
        go_wp2_with (go_at_call 131; refine (NR _).mono ?_; rintro e w' ⟨rfl, rfl⟩)
        go_ret
        exact ⟨by simp [okF, hN]; omega, (Below.refl _ _).alloc (Nat.le_refl _) _⟩
    · go_enter Tryz.func92, Tryz.ntmps92
      go_wp2_with (go_at_call 131; refine (NR _).mono ?_; rintro e w' ⟨rfl, rfl⟩)
      go_ret
      exact ⟨by simp [okF, hN]; omega, (Below.refl _ _).alloc (Nat.le_refl _) _⟩
  · have NR : ∀ W, Calls Tryz.prog 131 #[.string s0] W fun e w' => e = .returned (.bool false) ∧ W = w' := fun W => by have := implNameRight_any s0 W q0; rw [hN] at this; exact this
    go_enter Tryz.func92, Tryz.ntmps92
    go_wp2_with (go_at_call 131; refine (NR _).mono ?_; rintro e w' ⟨rfl, rfl⟩)
    go_ret
    exact ⟨by simp [okF, hN], (Below.refl _ _).alloc (Nat.le_refl _) _⟩

set_option maxHeartbeats 4000000 in
set_option maxRecDepth 1000000 in
theorem implRight_any (A : Option Addr) (L : List Fil) (c : Nat) (w : World) (hL : Fls w w.heap.size A L) :
    Calls Tryz.prog 23 #[.agg #[.slice A L.length c]] w fun e w' => e = .returned (.bool (fsOK L)) ∧ Below w.heap.size w w' := by
  have hn := hL.1
  unfold maxLen at hn
  have hB0 := Blk.fresh w 25 [.slice A L.length c]
  by_cases h12 : L.length ≤ 12
  · go_enter Tryz.func23, Tryz.ntmps23
    go_wp2
    go_loopw [3, 4, 12] (fun _ _ i wr => ∃ k : Nat, k ≤ L.length ∧ i = .int .i64 k ∧ (∀ j (h : j < L.length), j < k → okIn L j h) ∧ Blk wr w.heap.size 25 [.slice A L.length c] ∧ Below w.heap.size w wr) (fun _ _ i _ => L.length - (intOf i).toNat)
    case atStart => exact ⟨0, by omega, rfl, fun j _ h => by omega, hB0, (Below.refl _ _).alloc (Nat.le_refl _) _⟩
    case round =>
      obtain ⟨k, hk, rfl, hok, hB, hb⟩ := hrel
      have b0 := hB.cell (i := 0) rfl
      by_cases hlt : k < L.length
      · obtain ⟨a, rfl, hab, c0, c1, c2, hff⟩ := (hL.below hb (Nat.le_refl _)).at k hlt
        have hW := Blk.fresh wr 53 [.string L[k].name, .string L[k].data, .int .i64 L[k].sync]
        have hB3 := hB.alloc (.cells #[.string L[k].name, .string L[k].data, .int .i64 L[k].sync] 53)
        have hb3 := hb.alloc hb.size (.cells #[.string L[k].name, .string L[k].data, .int .i64 L[k].sync] 53)
        have hp : ∀ q, (h : q + 1 = k) → (wr.alloc (.cells #[.string L[k].name, .string L[k].data, .int .i64 L[k].sync] 53)).cell? (a.add (q * 3)) = some (.string (L[q]'(by omega)).name) := by
          intro q h
          obtain ⟨a', e, _, h2, _⟩ := (hL.below hb3 (Nat.le_refl _)).at q (by omega)
          cases e
          exact h2
        go_wp2
        generalize wr.alloc (.cells #[.string L[k].name, .string L[k].data, .int .i64 L[k].sync] 53) = w3 at hW hB3 hb3 hp ⊢
        have x0 := hW.cell (i := 0) rfl
        have x1 := hW.cell (i := 1) rfl
        have x2 := hW.cell (i := 2) rfl
        have y0 := hB3.cell (i := 0) rfl
        clear c0 c1 c2 b0
        have hnot : ∀ e : okF L[k] = false, fsOK L = false := fun e => fsOK_at hlt (fun h => by rw [h.1] at e; cases e)
        obtain ⟨I, f, hf⟩ := class_of (fun W => Blk W wr.heap.size 53 [.string L[k].name, .string L[k].data, .int .i64 L[k].sync] ∧ Blk W w.heap.size 25 [.slice (some a) L.length c] ∧ Below w.heap.size w W)
        have g0 : ∀ s, (f s).cell? ⟨wr.heap.size, 0, none⟩ = some (.string L[k].name) := fun s => ((hf _).1 ⟨s, rfl⟩).1.cell rfl
        have g1 : ∀ s, (f s).cell? ⟨wr.heap.size, 1, none⟩ = some (.string L[k].data) := fun s => ((hf _).1 ⟨s, rfl⟩).1.cell rfl
        have g2 : ∀ s, (f s).cell? ⟨wr.heap.size, 2, none⟩ = some (.int .i64 L[k].sync) := fun s => ((hf _).1 ⟨s, rfl⟩).1.cell rfl
        have g3 : ∀ s, (f s).cell? ⟨w.heap.size, 0, none⟩ = some (.slice (some a) L.length c) := fun s => ((hf _).1 ⟨s, rfl⟩).2.1.cell rfl
        have g4 : ∀ s q, (h : q + 1 = k) → (f s).cell? (a.add (q * 3)) = some (.string (L[q]'(by omega)).name) := by
          intro s q h
          obtain ⟨a', e, _, h2, _⟩ := (hL.below ((hf _).1 ⟨s, rfl⟩).2.2 (Nat.le_refl _)).at q (by omega)
          cases e
          exact h2
        have g5 : ∃ s, w3.drew = f s := (hf _).2 ⟨hW.drew, hB3.drew, below_drew hb3⟩
        have g6 : ∀ s W', Below (f s).heap.size (f s) W' → ∃ s', W' = f s' := fun s W' h => by
          obtain ⟨h1, h2, h3⟩ := (hf _).1 ⟨s, rfl⟩
          exact (hf _).2 ⟨h1.below h h1.lt, h2.below h h2.lt, h3.trans (h.mono h3.size)⟩
        haveI : Nonempty I := ⟨g5.choose⟩
        have HF := Lib.hid hf
        clear hf x0 x1 x2 y0
        rcases Bool.eq_false_or_eq_true (okF L[k]) with hN | hN
        · have FR : ∀ W, Calls Tryz.prog 92 #[.agg #[.string L[k].name, .string L[k].data, .int .i64 L[k].sync]] W fun e w' => e = .returned (.bool true) ∧ Below W.heap.size W w' := fun W => by have := fileRight_any L[k] W hff; rw [hN] at this; exact this
          by_cases hk0 : 0 < k
          · obtain ⟨q, hq⟩ : ∃ q, q + 1 = k := ⟨k - 1, by omega⟩
            have p0 : ∀ s, (f s).cell? (a.add (q * 3)) = some (.string (L[q]'(by omega)).name) := fun s => g4 s q hq
            have hd : decide ((0 : Int) < (k : Int)) = true := by simp; omega
            have e1 : IntKind.i64.wrap ((k : Int) - 1) = (q : Int) := by rw [IntWalk.i64_in _ (by omega)]; omega
            have e2 : (q : Int) < (L.length : Int) := by omega
            have hql : q < L.length := by omega
            clear hp g4
            rcases Bool.eq_false_or_eq_true (Op.bytesLess L[q].name.toList L[k].name.toList) with hl | hl
            · skip
              refine wp_region_kept f (by kernel_rfl) (by kernel_rfl) g5 ?_
              repeat (first
                | go_big_quiet_skip
                | (go_big_quiet_want; go_big_quiet_op; first | go_big_quiet_on | (apply Exists.intro; refine ⟨fun s => ?_, ?_⟩; (go_at_call 92; refine (FR _).mono ?_; rintro e w4 ⟨rfl, hb4⟩; exact ⟨rfl, g6 _ _ hb4⟩); go_big_quiet_on)))
              refine wpQuiet_nil ?_
              intro w5 h5
              obtain ⟨_, hB5, hb5⟩ := (HF.out _).1 h5
              go_wp2
              refine ⟨⟨k + 1, by omega, by go_num, fun j hj hjk => ?_, hB5, hb5⟩, by simp [intOf]; omega⟩
              by_cases e : j = k
              · subst e
                exact ⟨hN, okIn_less hq hlt hql hl⟩
              · exact hok j hj (by omega)
            · have R := Lib.hid (fsOK_at hlt (not_okIn_less hq hlt hql hl))
              refine wp_region_kept f (by kernel_rfl) (by kernel_rfl) g5 ?_
              repeat (first
                | go_big_quiet_skip
                | (go_big_quiet_want; go_big_quiet_op; first | go_big_quiet_on | (apply Exists.intro; refine ⟨fun s => ?_, ?_⟩; (go_at_call 92; refine (FR _).mono ?_; rintro e w4 ⟨rfl, hb4⟩; exact ⟨rfl, g6 _ _ hb4⟩); go_big_quiet_on)))
              refine wpQuiet_nil ?_
              intro w5 h5
              obtain ⟨_, hB5, hb5⟩ := (HF.out _).1 h5
              go_wp2
              go_ret
              exact ⟨by rw [R.out]; rfl, hb5⟩
          · have hd : decide ((0 : Int) < (k : Int)) = false := by simp; omega
            clear hp g4
            refine wp_region_kept f (by kernel_rfl) (by kernel_rfl) g5 ?_
            repeat (first
              | go_big_quiet_skip
              | (go_big_quiet_want; go_big_quiet_op; first | go_big_quiet_on | (apply Exists.intro; refine ⟨fun s => ?_, ?_⟩; (go_at_call 92; refine (FR _).mono ?_; rintro e w4 ⟨rfl, hb4⟩; exact ⟨rfl, g6 _ _ hb4⟩); go_big_quiet_on)))
            refine wpQuiet_nil ?_
            intro w5 h5
            obtain ⟨_, hB5, hb5⟩ := (HF.out _).1 h5
            go_wp2
            refine ⟨⟨k + 1, by omega, by go_num, fun j hj hjk => ?_, hB5, hb5⟩, by simp [intOf]; omega⟩
            by_cases e : j = k
            · subst e
              exact ⟨hN, fun h => absurd h hk0⟩
            · exact hok j hj (by omega)
        · have FR : ∀ W, Calls Tryz.prog 92 #[.agg #[.string L[k].name, .string L[k].data, .int .i64 L[k].sync]] W fun e w' => e = .returned (.bool false) ∧ Below W.heap.size W w' := fun W => by have := fileRight_any L[k] W hff; rw [hN] at this; exact this
          have R := Lib.hid (hnot hN)
          refine wp_region_kept f (by kernel_rfl) (by kernel_rfl) g5 ?_
          repeat (first
            | go_big_quiet_skip
            | (go_big_quiet_want; go_big_quiet_op; first | go_big_quiet_on | (apply Exists.intro; refine ⟨fun s => ?_, ?_⟩; (go_at_call 92; refine (FR _).mono ?_; rintro e w4 ⟨rfl, hb4⟩; exact ⟨rfl, g6 _ _ hb4⟩); go_big_quiet_on)))
          refine wpQuiet_nil ?_
          intro w5 h5
          obtain ⟨_, hB5, hb5⟩ := (HF.out _).1 h5
          go_wp2
          go_ret
          exact ⟨by rw [R.out]; rfl, hb5⟩
      · obtain rfl : k = L.length := by omega
        have R := Lib.hid (fsOK_true h12 fun i h => hok i h h)
        go_wp2
        go_ret
        exact ⟨by rw [R.out]; rfl, hb⟩
  · have R := Lib.hid (fsOK_big h12)
    go_enter Tryz.func23, Tryz.ntmps23
    go_wp2
    go_ret
    exact ⟨by rw [R.out]; rfl, (Below.refl _ _).alloc (Nat.le_refl _) _⟩
end Go.Proofs.YtebkblmejkkhfaaGreatDoor
