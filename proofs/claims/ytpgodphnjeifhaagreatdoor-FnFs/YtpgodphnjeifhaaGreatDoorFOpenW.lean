/- Plain facts on putting a file into its place among rising ones. The contract of impl.FsRight. The contracts of openFiles. -/
import Derived.Test.YtpgodphnjeifhaaGreatDoorFFindW
import Derived.Test.YtpgodphnjeifhaaGreatDoorFilRightW
import Derived.Test.YtpgodphnjeifhaaGreatDoorFreshW
namespace Go.Proofs.YtpgodphnjeifhaaGreatDoor
open Go.RowKit
set_option linter.unusedVariables false

theorem lt_of_rising {L : List Fil} (hR : Rising L) {i j : Nat} (hij : i < j) (hj : j < L.length) : lessB L[i].name L[j].name = true := List.pairwise_iff_getElem.1 hR i j (by omega) hj hij
theorem name_ne {L : List Fil} (hR : Rising L) {i j : Nat} (hi : i < L.length) (hj : j < L.length) (h : i ≠ j) : L[i].name ≠ L[j].name := by
  rcases Nat.lt_or_gt_of_ne h with h | h
  · exact lessB_ne (lt_of_rising hR h hj)
  · exact (lessB_ne (lt_of_rising hR h hi)).symm
theorem del_at {L : List Fil} (hR : Rising L) {i : Nat} (hi : i < L.length) : delL L L[i].name = L.take i ++ L.drop (i + 1) := by
  have hlt : ∀ j (hj : j < L.length), j ≠ i → L[j].name ≠ L[i].name := fun j hj h => name_ne hR hj hi h
  have hsp : L.filter (fun g => !decide (g.name = L[i].name)) = (L.take i ++ L[i] :: L.drop (i + 1)).filter (fun g => !decide (g.name = L[i].name)) := by
    rw [← List.drop_eq_getElem_cons hi, List.take_append_drop]
  unfold delL
  rw [hsp, List.filter_append, List.filter_cons_of_neg (by simp)]
  congr 1
  · rw [List.filter_eq_self]
    intro a ha
    obtain ⟨j, hj, rfl⟩ := List.getElem_of_mem ha
    rw [List.length_take] at hj
    rw [List.getElem_take]
    simpa using hlt j (by omega) (by omega)
  · rw [List.filter_eq_self]
    intro a ha
    obtain ⟨j, hj, rfl⟩ := List.getElem_of_mem ha
    rw [List.length_drop] at hj
    rw [List.getElem_drop]
    simpa using hlt (i + 1 + j) (by omega) (by omega)
theorem del_no {L : List Fil} {s : ByteArray} (h : ∀ g ∈ L, g.name ≠ s) : delL L s = L := by
  unfold delL
  rw [List.filter_eq_self]
  intro a ha
  simpa using h a ha
/-- Put behind the lesser ones and ahead of the greater ones. -/
theorem ins_mid {P Q : List Fil} {f : Fil} (hP : ∀ g ∈ P, lessB g.name f.name = true) (hQ : ∀ g ∈ Q, lessB f.name g.name = true) : insF f (P ++ Q) = P ++ f :: Q := by
  induction P with
  | nil =>
    cases Q with
    | nil => rfl
    | cons g r => simp only [List.nil_append, insF]; rw [if_pos (hQ g (by simp))]
  | cons g P ih =>
    simp only [List.cons_append, insF]
    have hg := lessB_asymm (hP g (by simp))
    rw [if_neg (by rw [hg]; decide), ih (fun x hx => hP x (by simp [hx]))]
theorem put_at {L : List Fil} (hR : Rising L) {i : Nat} (hi : i < L.length) {f : Fil} (hf : f.name = L[i].name) : putL L f = L.set i f := by
  have h1 : putL L f = insF f (delL L L[i].name) := by unfold putL delL; rw [hf]
  rw [h1, del_at hR hi, ins_mid]
  · rw [List.set_eq_take_append_cons_drop, if_pos hi]
  · intro g hg
    obtain ⟨j, hj, rfl⟩ := List.getElem_of_mem hg
    rw [List.length_take] at hj
    rw [List.getElem_take, hf]
    exact lt_of_rising hR (by omega) hi
  · intro g hg
    obtain ⟨j, hj, rfl⟩ := List.getElem_of_mem hg
    rw [List.length_drop] at hj
    rw [List.getElem_drop, hf]
    exact lt_of_rising hR (by omega) (by omega)
theorem rising_set {L : List Fil} (hR : Rising L) {i : Nat} (hi : i < L.length) {f : Fil} (hf : f.name = L[i].name) : Rising (L.set i f) := by
  unfold Rising
  rw [List.pairwise_iff_getElem]
  intro a b ha hb hab
  have hb' : b < L.length := by simpa using hb
  rw [List.getElem_set, List.getElem_set]
  split
  · subst i
    rw [if_neg (by omega), hf]
    exact lt_of_rising hR hab hb'
  · split
    · subst i
      rw [hf]; exact lt_of_rising hR hab hb'
    · exact lt_of_rising hR hab hb'
theorem rising_del {L : List Fil} (hR : Rising L) (s : ByteArray) : Rising (delL L s) := List.Pairwise.filter _ hR
theorem del_mem {L : List Fil} {s : ByteArray} {g : Fil} (h : g ∈ delL L s) : g ∈ L ∧ g.name ≠ s := by
  unfold delL at h
  rw [List.mem_filter] at h
  exact ⟨h.1, by simpa using h.2⟩
theorem ins_mem {L : List Fil} {f g : Fil} (h : g ∈ insF f L) : g = f ∨ g ∈ L := by
  induction L with
  | nil => simp [insF] at h; exact .inl h
  | cons x r ih =>
    simp only [insF] at h
    split at h
    · rcases List.mem_cons.1 h with h | h
      · exact .inl h
      · exact .inr h
    · rcases List.mem_cons.1 h with h | h
      · exact .inr (by simp [h])
      · rcases ih h with h | h
        · exact .inl h
        · exact .inr (by simp [h])
theorem put_mem {L : List Fil} {f g : Fil} (h : g ∈ putL L f) : g = f ∨ g ∈ L := by
  unfold putL at h
  rcases ins_mem h with h | h
  · exact .inl h
  · exact .inr (List.mem_filter.1 h).1
theorem ins_len (f : Fil) (L : List Fil) : (insF f L).length = L.length + 1 := by
  induction L with
  | nil => rfl
  | cons g r ih =>
    simp only [insF]
    split
    · simp
    · simp [ih]
theorem put_len (L : List Fil) (f : Fil) : (putL L f).length ≤ L.length + 1 := by
  unfold putL
  rw [ins_len]
  have := List.length_filter_le (fun g => !decide (g.name = f.name)) L
  omega
theorem rising_ins {L : List Fil} (hR : Rising L) {f : Fil} (hf : ∀ g ∈ L, g.name ≠ f.name) : Rising (insF f L) := by
  induction L with
  | nil => exact List.pairwise_singleton _ _
  | cons g r ih =>
    obtain ⟨h1, h2⟩ := List.pairwise_cons.1 hR
    simp only [insF]
    split
    · rename_i hlt
      refine List.Pairwise.cons (fun x hx => ?_) hR
      rcases List.mem_cons.1 hx with rfl | hx
      · exact hlt
      · exact lessB_trans hlt (h1 x hx)
    · rename_i hnlt
      refine List.Pairwise.cons (fun x hx => ?_) (ih h2 (fun x hx => hf x (by simp [hx])))
      rcases ins_mem hx with rfl | hx
      · rcases lessB_total (hf g (by simp)) with h | h
        · exact h
        · exact absurd h hnlt
      · exact h1 x hx
theorem rising_put {L : List Fil} (hR : Rising L) (f : Fil) : Rising (putL L f) := by
  unfold putL
  refine rising_ins (List.Pairwise.filter _ hR) (fun g hg => ?_)
  have := (List.mem_filter.1 hg).2
  simpa using this
theorem small_of {L M : List Fil} (hM : M.length ≤ 1048576) (h : ∀ g ∈ M, g.name.size ≤ 1048576 ∧ g.data.size ≤ 1048576) : Small M := ⟨hM, fun i hi => h _ (List.getElem_mem hi)⟩
theorem small_nil : Small [] := ⟨by simp, fun i h => absurd h (by simp)⟩
theorem small_mem {L : List Fil} (h : Small L) {g : Fil} (hg : g ∈ L) : g.name.size ≤ 1048576 ∧ g.data.size ≤ 1048576 := by
  obtain ⟨i, hi, rfl⟩ := List.getElem_of_mem hg
  exact h.2 i hi
theorem set_same {α : Type} {l : List α} {i : Nat} {x : α} (h : l[i]? = some x) : l.set i x = l := by
  apply List.ext_getElem?
  intro j
  rw [List.getElem?_set]
  split
  · subst i
    split
    · exact h.symm
    · rename_i h2; rw [List.getElem?_eq_none (by omega)] at h; cases h
  · rfl
/-- The third cell of a file put anew. -/
theorem flat_sync {L : List Fil} {i : Nat} (hi : i < L.length) (k : Int) : (flat L).set (i * 3 + 2) (.int .i64 k) = flat (L.set i ⟨L[i].name, L[i].data, k⟩) := by
  rw [← flat_set]
  simp only
  rw [set_same (i := i * 3) (flat_get L i hi 0 (by omega)), set_same (flat_get L i hi 1 (by omega))]
/-- The second and third cell of a file put anew. -/
theorem flat_two {L : List Fil} {i : Nat} (hi : i < L.length) (d : ByteArray) (k : Int) : ((flat L).set (i * 3 + 1) (.string d)).set (i * 3 + 2) (.int .i64 k) = flat (L.set i ⟨L[i].name, d, k⟩) := by
  rw [← flat_set]
  simp only
  rw [set_same (i := i * 3) (flat_get L i hi 0 (by omega))]
end Go.Proofs.YtpgodphnjeifhaaGreatDoor

namespace Go.Proofs.YtpgodphnjeifhaaGreatDoor
open Go.RowKit
set_option linter.unusedVariables false

set_option maxHeartbeats 1000000 in
theorem fileRight_any (f : Fil) (w : World) (hf : f.fits) : Calls Tryz.prog 56 #[f.val] w fun e w' => e = .returned (.bool (okF f)) ∧ Below w.heap.size w w' := by
  obtain ⟨s0, s1, k⟩ := f
  obtain ⟨q0, q1, q2, q3⟩ := hf
  simp only at q0 q1 q2 q3
  have q1' := q1
  unfold maxLen at q1
  unfold Fil.val
  simp only
  rcases Bool.eq_false_or_eq_true (nameB s0) with hN | hN
  · have NR : ∀ W, Calls Tryz.prog 74 #[.string s0] W fun e w' => e = .returned (.bool true) ∧ W = w' := fun W => by have := implNameRight_any s0 W q0; rw [hN] at this; exact this
    by_cases h1 : s1.size ≤ 3000
    · by_cases h2 : 0 ≤ k
      · by_cases h3 : k ≤ s1.size
        all_goals
          go_enter Tryz.func56, Tryz.ntmps56
          go_wp2_with (go_at_call 74; refine (NR _).mono ?_; rintro e w' ⟨rfl, rfl⟩)
          go_ret
          exact ⟨retB (by simp [okF, hN]; omega), (Below.refl _ _).alloc (Nat.le_refl _) _⟩
      · go_enter Tryz.func56, Tryz.ntmps56
        go_wp2_with (go_at_call 74; refine (NR _).mono ?_; rintro e w' ⟨rfl, rfl⟩)
        go_ret
        exact ⟨by simp [okF, hN]; omega, (Below.refl _ _).alloc (Nat.le_refl _) _⟩
    · go_enter Tryz.func56, Tryz.ntmps56
      go_wp2_with (go_at_call 74; refine (NR _).mono ?_; rintro e w' ⟨rfl, rfl⟩)
      go_ret
      exact ⟨by simp [okF, hN]; omega, (Below.refl _ _).alloc (Nat.le_refl _) _⟩
  · have NR : ∀ W, Calls Tryz.prog 74 #[.string s0] W fun e w' => e = .returned (.bool false) ∧ W = w' := fun W => by have := implNameRight_any s0 W q0; rw [hN] at this; exact this
    go_enter Tryz.func56, Tryz.ntmps56
    go_wp2_with (go_at_call 74; refine (NR _).mono ?_; rintro e w' ⟨rfl, rfl⟩)
    go_ret
    exact ⟨by simp [okF, hN], (Below.refl _ _).alloc (Nat.le_refl _) _⟩

set_option maxHeartbeats 4000000 in
set_option maxRecDepth 1000000 in
theorem implRight_any (A : Option Addr) (L : List Fil) (c : Nat) (w : World) (hL : Fls w w.heap.size A L) :
    Calls Tryz.prog 17 #[.agg #[.slice A L.length c]] w fun e w' => e = .returned (.bool (fsOK L)) ∧ Below w.heap.size w w' := by
  have hn := hL.1
  unfold maxLen at hn
  have hB0 := Blk.fresh w 25 [.slice A L.length c]
  by_cases h12 : L.length ≤ 12
  · go_enter Tryz.func17, Tryz.ntmps17
    go_wp2
    go_loopw [3, 4, 12] (fun _ _ i wr => ∃ k : Nat, k ≤ L.length ∧ i = .int .i64 k ∧ (∀ j (h : j < L.length), j < k → okIn L j h) ∧ Blk wr w.heap.size 25 [.slice A L.length c] ∧ Below w.heap.size w wr) (fun _ _ i _ => L.length - (intOf i).toNat)
    case atStart => exact ⟨0, by omega, rfl, fun j _ h => by omega, hB0, (Below.refl _ _).alloc (Nat.le_refl _) _⟩
    case round =>
      obtain ⟨k, hk, rfl, hok, hB, hb⟩ := hrel
      have b0 := hB.cell (i := 0) rfl
      by_cases hlt : k < L.length
      · obtain ⟨a, rfl, hab, c0, c1, c2, hff⟩ := (hL.below hb (Nat.le_refl _)).at k hlt
        have hW := Blk.fresh wr 53 [.string L[k].name, .string L[k].data, .int .i64 L[k].sync]
        have hB3 := hB.alloc (.cells #[.string L[k].name, .string L[k].data, .int .i64 L[k].sync] 53)
        have hb3 := hb.alloc hb.size (.cells #[.string L[k].name, .string L[k].data, .int .i64 L[k].sync] 53)
        have hp : ∀ q, (h : q + 1 = k) → (wr.alloc (.cells #[.string L[k].name, .string L[k].data, .int .i64 L[k].sync] 53)).cell? (a.add (q * 3)) = some (.string (L[q]'(by omega)).name) := by
          intro q h
          obtain ⟨a', e, _, h2, _⟩ := (hL.below hb3 (Nat.le_refl _)).at q (by omega)
          cases e
          exact h2
        go_wp2
        generalize wr.alloc (.cells #[.string L[k].name, .string L[k].data, .int .i64 L[k].sync] 53) = w3 at hW hB3 hb3 hp ⊢
        have x0 := hW.cell (i := 0) rfl
        have x1 := hW.cell (i := 1) rfl
        have x2 := hW.cell (i := 2) rfl
        have y0 := hB3.cell (i := 0) rfl
        clear c0 c1 c2 b0
        have hnot : ∀ e : okF L[k] = false, fsOK L = false := fun e => fsOK_at hlt (fun h => by rw [h.1] at e; cases e)
        obtain ⟨I, f, hf⟩ := class_of (fun W => Blk W wr.heap.size 53 [.string L[k].name, .string L[k].data, .int .i64 L[k].sync] ∧ Blk W w.heap.size 25 [.slice (some a) L.length c] ∧ Below w.heap.size w W)
        have g0 : ∀ s, (f s).cell? ⟨wr.heap.size, 0, none⟩ = some (.string L[k].name) := fun s => ((hf _).1 ⟨s, rfl⟩).1.cell rfl
        have g1 : ∀ s, (f s).cell? ⟨wr.heap.size, 1, none⟩ = some (.string L[k].data) := fun s => ((hf _).1 ⟨s, rfl⟩).1.cell rfl
        have g2 : ∀ s, (f s).cell? ⟨wr.heap.size, 2, none⟩ = some (.int .i64 L[k].sync) := fun s => ((hf _).1 ⟨s, rfl⟩).1.cell rfl
        have g3 : ∀ s, (f s).cell? ⟨w.heap.size, 0, none⟩ = some (.slice (some a) L.length c) := fun s => ((hf _).1 ⟨s, rfl⟩).2.1.cell rfl
        have g4 : ∀ s q, (h : q + 1 = k) → (f s).cell? (a.add (q * 3)) = some (.string (L[q]'(by omega)).name) := by
          intro s q h
          obtain ⟨a', e, _, h2, _⟩ := (hL.below ((hf _).1 ⟨s, rfl⟩).2.2 (Nat.le_refl _)).at q (by omega)
          cases e
          exact h2
        have g5 : ∃ s, w3.drew = f s := (hf _).2 ⟨hW.drew, hB3.drew, below_drew hb3⟩
        have g6 : ∀ s W', Below (f s).heap.size (f s) W' → ∃ s', W' = f s' := fun s W' h => by
          obtain ⟨h1, h2, h3⟩ := (hf _).1 ⟨s, rfl⟩
          exact (hf _).2 ⟨h1.below h h1.lt, h2.below h h2.lt, h3.trans (h.mono h3.size)⟩
        haveI : Nonempty I := ⟨g5.choose⟩
        have HF := Lib.hid hf
        clear hf x0 x1 x2 y0
        rcases Bool.eq_false_or_eq_true (okF L[k]) with hN | hN
        · have FR : ∀ W, Calls Tryz.prog 56 #[.agg #[.string L[k].name, .string L[k].data, .int .i64 L[k].sync]] W fun e w' => e = .returned (.bool true) ∧ Below W.heap.size W w' := fun W => by have := fileRight_any L[k] W hff; rw [hN] at this; exact this
          by_cases hk0 : 0 < k
          · obtain ⟨q, hq⟩ : ∃ q, q + 1 = k := ⟨k - 1, by omega⟩
            have p0 : ∀ s, (f s).cell? (a.add (q * 3)) = some (.string (L[q]'(by omega)).name) := fun s => g4 s q hq
            have hd : decide ((0 : Int) < (k : Int)) = true := by simp; omega
            have e1 : IntKind.i64.wrap ((k : Int) - 1) = (q : Int) := by rw [IntWalk.i64_in _ (by omega)]; omega
            have e2 : (q : Int) < (L.length : Int) := by omega
            have hql : q < L.length := by omega
            clear hp g4
            rcases Bool.eq_false_or_eq_true (Op.bytesLess L[q].name.toList L[k].name.toList) with hl | hl
            · skip
              refine wp_region_kept f (by kernel_rfl) (by kernel_rfl) g5 ?_
              repeat (first
                | go_big_quiet_skip
                | (go_big_quiet_want; go_big_quiet_op; first | go_big_quiet_on | (apply Exists.intro; refine ⟨fun s => ?_, ?_⟩; (go_at_call 56; refine (FR _).mono ?_; rintro e w4 ⟨rfl, hb4⟩; exact ⟨rfl, g6 _ _ hb4⟩); go_big_quiet_on)))
              refine wpQuiet_nil ?_
              intro w5 h5
              obtain ⟨_, hB5, hb5⟩ := (HF.out _).1 h5
              go_wp2
              refine ⟨⟨k + 1, by omega, by go_num, fun j hj hjk => ?_, hB5, hb5⟩, by simp [intOf]; omega⟩
              by_cases e : j = k
              · subst e
                exact ⟨hN, okIn_less hq hlt hql hl⟩
              · exact hok j hj (by omega)
            · have R := Lib.hid (fsOK_at hlt (not_okIn_less hq hlt hql hl))
              refine wp_region_kept f (by kernel_rfl) (by kernel_rfl) g5 ?_
              repeat (first
                | go_big_quiet_skip
                | (go_big_quiet_want; go_big_quiet_op; first | go_big_quiet_on | (apply Exists.intro; refine ⟨fun s => ?_, ?_⟩; (go_at_call 56; refine (FR _).mono ?_; rintro e w4 ⟨rfl, hb4⟩; exact ⟨rfl, g6 _ _ hb4⟩); go_big_quiet_on)))
              refine wpQuiet_nil ?_
              intro w5 h5
              obtain ⟨_, hB5, hb5⟩ := (HF.out _).1 h5
              go_wp2
              go_ret
              exact ⟨by rw [R.out]; rfl, hb5⟩
          · have hd : decide ((0 : Int) < (k : Int)) = false := by simp; omega
            clear hp g4
            refine wp_region_kept f (by kernel_rfl) (by kernel_rfl) g5 ?_
            repeat (first
              | go_big_quiet_skip
              | (go_big_quiet_want; go_big_quiet_op; first | go_big_quiet_on | (apply Exists.intro; refine ⟨fun s => ?_, ?_⟩; (go_at_call 56; refine (FR _).mono ?_; rintro e w4 ⟨rfl, hb4⟩; exact ⟨rfl, g6 _ _ hb4⟩); go_big_quiet_on)))
            refine wpQuiet_nil ?_
            intro w5 h5
            obtain ⟨_, hB5, hb5⟩ := (HF.out _).1 h5
            go_wp2
            refine ⟨⟨k + 1, by omega, by go_num, fun j hj hjk => ?_, hB5, hb5⟩, by simp [intOf]; omega⟩
            by_cases e : j = k
            · subst e
              exact ⟨hN, fun h => absurd h hk0⟩
            · exact hok j hj (by omega)
        · have FR : ∀ W, Calls Tryz.prog 56 #[.agg #[.string L[k].name, .string L[k].data, .int .i64 L[k].sync]] W fun e w' => e = .returned (.bool false) ∧ Below W.heap.size W w' := fun W => by have := fileRight_any L[k] W hff; rw [hN] at this; exact this
          have R := Lib.hid (hnot hN)
          refine wp_region_kept f (by kernel_rfl) (by kernel_rfl) g5 ?_
          repeat (first
            | go_big_quiet_skip
            | (go_big_quiet_want; go_big_quiet_op; first | go_big_quiet_on | (apply Exists.intro; refine ⟨fun s => ?_, ?_⟩; (go_at_call 56; refine (FR _).mono ?_; rintro e w4 ⟨rfl, hb4⟩; exact ⟨rfl, g6 _ _ hb4⟩); go_big_quiet_on)))
          refine wpQuiet_nil ?_
          intro w5 h5
          obtain ⟨_, hB5, hb5⟩ := (HF.out _).1 h5
          go_wp2
          go_ret
          exact ⟨by rw [R.out]; rfl, hb5⟩
      · obtain rfl : k = L.length := by omega
        have R := Lib.hid (fsOK_true h12 fun i h => hok i h h)
        go_wp2
        go_ret
        exact ⟨by rw [R.out]; rfl, hb⟩
  · have R := Lib.hid (fsOK_big h12)
    go_enter Tryz.func17, Tryz.ntmps17
    go_wp2
    go_ret
    exact ⟨by rw [R.out]; rfl, (Below.refl _ _).alloc (Nat.le_refl _) _⟩
end Go.Proofs.YtpgodphnjeifhaaGreatDoor

namespace Go.Proofs.YtpgodphnjeifhaaGreatDoor
open Go.RowKit
set_option linter.unusedVariables false
set_option maxRecDepth 1000000

/-- Strings behind an address. -/
def StrA (w : World) (A : Option Addr) (N : List ByteArray) : Prop := ∀ i (h : i < N.length), ∃ a, A = some a ∧ w.cell? (a.add i) = some (.string N[i])
theorem StrA.below {w w' : World} {A : Option Addr} {N : List ByteArray} (h : StrA w A N) (hb : Below w.heap.size w w') : StrA w' A N := fun i hi => by
  obtain ⟨a, e, h1⟩ := h i hi
  exact ⟨a, e, by rw [← h1]; exact World.cell?_of_block (hb.block _ (World.block_lt_of_cell? w _ h1))⟩
def anyLong (N : List ByteArray) : Bool := N.any fun s => decide (20000 < s.size)

set_option maxHeartbeats 1000000 in
theorem indexLong_any (A : Option Addr) (N : List ByteArray) (c : Nat) (w : World) (hN : StrA w A N) (hl : N.length ≤ 100) (hs : ∀ s ∈ N, s.size ≤ maxLen) :
    Calls Tryz.prog 82 #[.slice A N.length c, .func (.func 38) #[] #[]] w fun e w' => ∃ r : Int, e = .returned (.int .i64 r) ∧ (r < 0 ↔ anyLong N = false) ∧ -1 ≤ r ∧ r ≤ 100 ∧ w' = w := by
  have hz : ∀ i (h : i < N.length), N[i].size ≤ maxLen := fun i h => hs _ (List.getElem_mem h)
  go_enter Tryz.func82, Tryz.ntmps82
  go_wp2
  go_loopw [5, 8] (fun _ i wr => ∃ k : Nat, k ≤ N.length ∧ i = .int .i64 k ∧ (∀ j (h : j < N.length), j < k → ¬ 20000 < N[j].size) ∧ wr = w) (fun _ i _ => N.length - (intOf i).toNat)
  case atStart => exact ⟨0, by omega, rfl, fun j _ h => by omega, rfl⟩
  case round =>
    obtain ⟨k, hk, rfl, hno, rfl⟩ := hrel
    by_cases hlt : k < N.length
    · obtain ⟨a, rfl, a0⟩ := hN k hlt
      have hlt' : (k : Int) < (N.length : Int) := by omega
      rcases Bool.eq_false_or_eq_true (decide (20000 < N[k].size)) with hd | hd
      · have T := fun W => tooLong_any N[k] W (hz k hlt)
        rw [hd] at T
        go_wp2_with (fail)
        refine (T _).mono ?_
        rintro e w1 ⟨rfl, rfl⟩
        go_wp2
        go_ret
        refine ⟨k, rfl, ?_, by omega, by omega, rfl⟩
        have : anyLong N = true := List.any_eq_true.2 ⟨N[k], List.getElem_mem hlt, hd⟩
        rw [this]; simp
      · have T := fun W => tooLong_any N[k] W (hz k hlt)
        rw [hd] at T
        go_wp2_with (fail)
        refine (T _).mono ?_
        rintro e w1 ⟨rfl, rfl⟩
        go_wp2
        refine ⟨⟨k + 1, by omega, by go_num, fun j hj hjk => ?_, by first | trivial | rfl⟩, by simp [intOf]; omega⟩
        by_cases e : j = k
        · subst e; simpa using hd
        · exact hno j hj (by omega)
    · obtain rfl : k = N.length := by omega
      go_wp2
      go_ret
      refine ⟨-1, rfl, ?_, by omega, by omega, rfl⟩
      have : anyLong N = false := by
        unfold anyLong
        rw [List.any_eq_false]
        intro s hs'
        obtain ⟨i, hi, rfl⟩ := List.getElem_of_mem hs'
        simpa using hno i hi hi
      rw [this]; simp
theorem containsLong_any (A : Option Addr) (N : List ByteArray) (c : Nat) (w : World) (hN : StrA w A N) (hl : N.length ≤ 100) (hs : ∀ s ∈ N, s.size ≤ maxLen) :
    Calls Tryz.prog 73 #[.slice A N.length c, .func (.func 38) #[] #[]] w fun e w' => e = .returned (.bool (anyLong N)) ∧ w' = w := by
  go_enter Tryz.func73, Tryz.ntmps73
  go_wp2_with (fail)
  refine (indexLong_any A N c w hN hl hs).mono ?_
  rintro e w1 ⟨r, rfl, h1, h2, h3, rfl⟩
  go_wp2
  go_ret
  refine ⟨retB ?_, rfl⟩
  cases h : anyLong N
  · have := h1.2 h; simp; omega
  · have : ¬ r < 0 := fun e => by rw [h1.1 e] at h; cases h
    simp; omega

theorem put_end {L : List Fil} {k : Nat} (hR : Rising L) (h : k < L.length) : putL (L.take k) L[k] = L.take (k + 1) := by
  have hlt : ∀ g ∈ L.take k, lessB g.name L[k].name = true := fun g hg => by
    obtain ⟨i, hi, rfl⟩ := List.getElem_of_mem hg
    have hik : i < k := by simp at hi; omega
    rw [List.getElem_take]
    exact List.pairwise_iff_getElem.1 hR i k (by omega) h hik
  unfold putL
  have e1 : (L.take k).filter (fun g => !decide (g.name = L[k].name)) = L.take k := by
    rw [List.filter_eq_self]
    intro g hg
    simp [lessB_ne (hlt g hg)]
  rw [e1, List.take_succ_eq_append_getElem h]
  have ins : ∀ M : List Fil, (∀ g ∈ M, lessB g.name L[k].name = true) → insF L[k] M = M ++ [L[k]] := by
    intro M
    induction M with
    | nil => intro _; rfl
    | cons g M ih =>
      intro hm
      have h0 := lessB_asymm (hm g (List.mem_cons_self ..))
      simp only [insF, h0, Bool.false_eq_true, if_false, ih (fun x hx => hm x (List.mem_cons_of_mem _ hx)), List.cons_append]
  exact ins _ hlt

/-- What openFiles answers. -/
noncomputable def openOK (L : List Fil) (N : List ByteArray) : Bool := fsOK L && N.all nameB
set_option maxHeartbeats 2000000 in
set_option maxRecDepth 1000000 in
theorem open_long (A : Option Addr) (L : List Fil) (c : Nat) (B : Option Addr) (N : List ByteArray) (d : Nat) (a0 a1 a2 a3 a4 : Addr) (w : World) (hE : Errs w a0 a1 a2 a3 a4) (hN : StrA w B N) (hl : N.length ≤ 100) (hs : ∀ s ∈ N, s.size ≤ maxLen) (hlong : anyLong N = true) :
    Calls Tryz.prog 47 #[.agg #[.slice A L.length c], .slice B N.length d] w fun e w' => e = .returned (.tuple #[.map none, errV a0]) ∧ Below w.heap.size w w' := by
  have hb0 : Below w.heap.size w (w.alloc (.cells #[.slice A L.length c] 25)) := (Below.refl _ _).alloc (Nat.le_refl _) _
  have e0 := (hE.below hb0).1.1
  have C := containsLong_any B N d _ (hN.below hb0) hl hs
  rw [hlong] at C
  go_enter Tryz.func47, Tryz.ntmps47
  go_wp2_with (fail)
  refine C.mono ?_
  rintro e w1 ⟨rfl, rfl⟩
  go_wp2
  go_quiet (fail)
  go_wp2
  exact bodyPost_ret (v := .tuple #[.map none, errV a0]) (by simp [results, Tryz.results47, go_sem]) rfl ⟨rfl, below_drewN hb0 _⟩

set_option maxHeartbeats 2000000 in
set_option maxRecDepth 1000000 in
theorem open_bad (A : Option Addr) (L : List Fil) (c : Nat) (B : Option Addr) (N : List ByteArray) (d : Nat) (a0 a1 a2 a3 a4 : Addr) (w : World) (hE : Errs w a0 a1 a2 a3 a4) (hL : Fls w w.heap.size A L) (hN : StrA w B N) (hl : N.length ≤ 100) (hs : ∀ s ∈ N, s.size ≤ maxLen) (hlong : anyLong N = false) (hbad : openOK L N = false) :
    Calls Tryz.prog 47 #[.agg #[.slice A L.length c], .slice B N.length d] w fun e w' => e = .returned (.tuple #[.map none, errV a1]) ∧ Below w.heap.size w w' := by
  have hb0 : Below w.heap.size w (w.alloc (.cells #[.slice A L.length c] 25)) := (Below.refl _ _).alloc (Nat.le_refl _) _
  have C := containsLong_any B N d _ (hN.below hb0) hl hs
  rw [hlong] at C
  have hz : ∀ i (h : i < N.length), N[i].size ≤ maxLen := fun i h => hs _ (List.getElem_mem h)
  have hB0 := Blk.fresh w 25 [.slice A L.length c]
  have b0 := hB0.cell (i := 0) rfl
  go_enter Tryz.func47, Tryz.ntmps47
  go_wp2_with (fail)
  refine C.mono ?_
  rintro e w1 ⟨rfl, rfl⟩
  have R := implRight_any A L c _ ((hL.below hb0 (Nat.le_refl _)).mono hb0.size)
  rcases Bool.eq_false_or_eq_true (fsOK L) with hok | hok
  · rw [hok] at R
    go_wp2_with (fail)
    refine R.mono ?_
    rintro e w2 ⟨rfl, hb2⟩
    have hw2 := hb0.trans (hb2.mono hb0.size)
    have hE2 := hE.below hw2
    have hN2 := hN.below hw2
    have e1 := hE2.1.2.1
    have hall : N.all nameB = false := by unfold openOK at hbad; rw [hok] at hbad; simpa using hbad
    go_wp2
    go_loopw [7, 20] (fun _ i wr => ∃ k : Nat, k ≤ N.length ∧ i = .int .i64 k ∧ (∀ j (h : j < N.length), j < k → nameB N[j] = true) ∧ wr = w2) (fun _ i _ => N.length - (intOf i).toNat)
    case atStart => exact ⟨0, by omega, rfl, fun j _ h => by omega, rfl⟩
    case round =>
      obtain ⟨k, hk, rfl, hno, rfl⟩ := hrel
      by_cases hlt : k < N.length
      · obtain ⟨a, rfl, q0⟩ := hN2 k hlt
        have hlt' : (k : Int) < (N.length : Int) := by omega
        have T := fun W => implNameRight_any N[k] W (hz k hlt)
        rcases Bool.eq_false_or_eq_true (nameB N[k]) with hd | hd
        · rw [hd] at T
          go_wp2_with (fail)
          refine (T _).mono ?_
          rintro e w3 ⟨rfl, rfl⟩
          go_wp2
          refine ⟨⟨k + 1, by omega, by go_num, fun j hj hjk => ?_, by first | trivial | rfl⟩, by simp [intOf]; omega⟩
          by_cases e : j = k
          · subst e; exact hd
          · exact hno j hj (by omega)
        · rw [hd] at T
          go_wp2_with (fail)
          refine (T _).mono ?_
          rintro e w3 ⟨rfl, rfl⟩
          go_wp2
          go_quiet (fail)
          go_wp2
          exact bodyPost_ret (v := .tuple #[.map none, errV a1]) (by simp [results, Tryz.results47, go_sem]) rfl ⟨rfl, below_drewN hw2 _⟩
      · exfalso
        rw [List.all_eq_false] at hall
        obtain ⟨s, hs1, hs2⟩ := hall
        obtain ⟨i, hi, rfl⟩ := List.getElem_of_mem hs1
        exact hs2 (hno i hi (by omega))
  · rw [hok] at R
    go_wp2_with (fail)
    refine R.mono ?_
    rintro e w2 ⟨rfl, hb2⟩
    have hw2 := hb0.trans (hb2.mono hb0.size)
    have e1 := (hE.below hw2).1.2.1
    go_wp2
    go_quiet (fail)
    go_wp2
    exact bodyPost_ret (v := .tuple #[.map none, errV a1]) (by simp [results, Tryz.results47, go_sem]) rfl ⟨rfl, below_drewN hw2 _⟩

theorem run_makeMap_hint (n : Int) (w : World) : (Instr.makeMap 62 (some (.int .i64 n))).run Tryz.prog w = .ok (.map (some w.heap.size)) (w.alloc (.map #[] 0)) := by
  simp [Instr.makeMap, go_sem]
set_option maxHeartbeats 2000000 in
set_option maxRecDepth 1000000 in
theorem open_ok (A : Option Addr) (L : List Fil) (c : Nat) (B : Option Addr) (N : List ByteArray) (d : Nat) (w : World) (hL : Fls w w.heap.size A L) (hN : StrA w B N) (hl : N.length ≤ 100) (hs : ∀ s ∈ N, s.size ≤ maxLen) (hlong : anyLong N = false) (hgood : openOK L N = true) :
    Calls Tryz.prog 47 #[.agg #[.slice A L.length c], .slice B N.length d] w fun e w' => ∃ b, e = .returned (.tuple #[.map (some b), .nilIface]) ∧ MapF w' b L.length L ∧ w.heap.size ≤ b ∧ Below w.heap.size w w' := by
  have hb0 : Below w.heap.size w (w.alloc (.cells #[.slice A L.length c] 25)) := (Below.refl _ _).alloc (Nat.le_refl _) _
  have C := containsLong_any B N d _ (hN.below hb0) hl hs
  rw [hlong] at C
  have hz : ∀ i (h : i < N.length), N[i].size ≤ maxLen := fun i h => hs _ (List.getElem_mem h)
  have hB0 := Blk.fresh w 25 [.slice A L.length c]
  have b0 := hB0.cell (i := 0) rfl
  have hok : fsOK L = true := by unfold openOK at hgood; simp only [Bool.and_eq_true] at hgood; exact hgood.1
  have hall : N.all nameB = true := by unfold openOK at hgood; simp only [Bool.and_eq_true] at hgood; exact hgood.2
  have hR := rising_of_ok hok
  have h12 := (fsOK_iff.1 hok).1
  have R := implRight_any A L c _ ((hL.below hb0 (Nat.le_refl _)).mono hb0.size)
  rw [hok] at R
  have hmm := run_makeMap_hint
  go_enter Tryz.func47, Tryz.ntmps47
  go_wp2_with (fail)
  refine C.mono ?_
  rintro e w1 ⟨rfl, rfl⟩
  go_wp2_with (fail)
  refine R.mono ?_
  rintro e w2 ⟨rfl, hb2⟩
  have hw2 := hb0.trans (hb2.mono hb0.size)
  have hN2 := hN.below hw2
  have hB2 := hB0.below hb2 hB0.lt
  have b2 := hB2.cell (i := 0) rfl
  clear b0
  go_wp2
  go_loopw [7, 20] (fun _ i wr => ∃ k : Nat, k ≤ N.length ∧ i = .int .i64 k ∧ wr = w2) (fun _ i _ => N.length - (intOf i).toNat)
  case atStart => exact ⟨0, by omega, rfl, rfl⟩
  case round =>
    obtain ⟨k, hk, rfl, rfl⟩ := hrel
    by_cases hlt : k < N.length
    · obtain ⟨a, rfl, q0⟩ := hN2 k hlt
      have hlt' : (k : Int) < (N.length : Int) := by omega
      have T := fun W => implNameRight_any N[k] W (hz k hlt)
      have hd : nameB N[k] = true := List.all_eq_true.1 hall _ (List.getElem_mem hlt)
      rw [hd] at T
      go_wp2_with (fail)
      refine (T _).mono ?_
      rintro e w3 ⟨rfl, rfl⟩
      go_wp2
      exact ⟨⟨k + 1, by omega, by go_num, by first | trivial | rfl⟩, by simp [intOf]; omega⟩
    · obtain rfl : k = N.length := by omega
      have hB3 := hB2.alloc (.map #[] 0)
      have b3 := hB3.cell (i := 0) rfl
      have hw3 := hw2.alloc hw2.size (.map #[] 0)
      have M3 : MapF (wr.alloc (.map #[] 0)) wr.heap.size 0 [] := World.ownsMap_made wr Tryz.prog 9 filElem
      have hbb := hB2.lt
      have hws := hw2.size
      go_wp2
      generalize wr.heap.size = bm at M3 hbb hws ⊢
      go_loopw [10, 36] (fun _ i wq => ∃ k : Nat, k ≤ L.length ∧ i = .int .i64 k ∧ MapF wq bm k (L.take k) ∧ Blk wq w.heap.size 25 [.slice A L.length c] ∧ Below w.heap.size w wq) (fun _ i _ => L.length - (intOf i).toNat)
      case atStart => exact ⟨0, by omega, rfl, M3, hB3, hw3⟩
      case round =>
        obtain ⟨k, hk2, rfl, hM, hBq, hbq⟩ := hrel
        by_cases hlt2 : k < L.length
        · obtain ⟨a, rfl, hab, c0, c1, c2, hff⟩ := (hL.below hbq (Nat.le_refl _)).at k hlt2
          have hM1 := World.ownsMap.alloc hM (.cells #[.string L[k].name, .string L[k].data, .int .i64 L[k].sync] 53)
          have hB1 := hBq.alloc (.cells #[.string L[k].name, .string L[k].data, .int .i64 L[k].sync] 53)
          have hb1 := hbq.alloc hbq.size (.cells #[.string L[k].name, .string L[k].data, .int .i64 L[k].sync] 53)
          have hlt' : (k : Int) < (L.length : Int) := by omega
          go_wp2_with (at_mapUpdate; refine wpList_mapUpdate_own _ rfl _ _ _ 62 rfl 9 53 keyed Tryz.underlying62 filElem bm k _ rfl hM1 (by unfold maxLen; omega) _ _ _ rfl rfl (key_mk hff.1) (fileD L[k]) [] (filElem_mk L[k]) ?_)
          intro w5 hM5 hg5
          rw [← List.map_take, put_D, put_end hR hlt2] at hM5
          have hB5 := hB1.grown hg5 (by simp; omega)
          have hb5 := hb1.grown hg5 (by have := hbq.size; simp; omega) (fun j e => by cases e; omega)
          go_wp2
          exact ⟨⟨k + 1, by omega, by go_num, hM5, hB5, hb5⟩, by simp [intOf]; omega⟩
        · obtain rfl : k = L.length := by omega
          rw [List.take_of_length_le (Nat.le_refl _)] at hM
          go_wp2
          exact bodyPost_ret (v := .tuple #[.map (some bm), .nilIface]) (by simp [results, Tryz.results47, go_sem]) rfl ⟨_, rfl, hM, hws, hbq⟩
end Go.Proofs.YtpgodphnjeifhaaGreatDoor
