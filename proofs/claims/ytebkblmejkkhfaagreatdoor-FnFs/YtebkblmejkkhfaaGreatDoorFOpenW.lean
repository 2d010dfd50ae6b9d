/- The contracts of openFiles. -/
import Derived.Test.YtebkblmejkkhfaaGreatDoorCloneW
import Derived.Test.YtebkblmejkkhfaaGreatDoorFilRightIW
namespace Go.Proofs.YtebkblmejkkhfaaGreatDoor
open Go.RowKit
set_option linter.unusedVariables false
set_option maxRecDepth 1000000

/-- Strings behind an address. -/
def StrA (w : World) (A : Option Addr) (N : List ByteArray) : Prop := ∀ i (h : i < N.length), ∃ a, A = some a ∧ w.cell? (a.add i) = some (.string N[i])
theorem StrA.below {w w' : World} {A : Option Addr} {N : List ByteArray} (h : StrA w A N) (hb : Below w.heap.size w w') : StrA w' A N := fun i hi => by
  obtain ⟨a, e, h1⟩ := h i hi
  exact ⟨a, e, by rw [← h1]; exact World.cell?_of_block (hb.block _ (World.block_lt_of_cell? w _ h1))⟩
def anyLong (N : List ByteArray) : Bool := N.any fun s => decide (20000 < s.size)

set_option maxHeartbeats 1000000 in
theorem indexLong_any (A : Option Addr) (N : List ByteArray) (c : Nat) (w : World) (hN : StrA w A N) (hl : N.length ≤ 100) (hs : ∀ s ∈ N, s.size ≤ maxLen) :
    Calls Tryz.prog 158 #[.slice A N.length c, .func (.func 74) #[] #[]] w fun e w' => ∃ r : Int, e = .returned (.int .i64 r) ∧ (r < 0 ↔ anyLong N = false) ∧ -1 ≤ r ∧ r ≤ 100 ∧ w' = w := by
  have hz : ∀ i (h : i < N.length), N[i].size ≤ maxLen := fun i h => hs _ (List.getElem_mem h)
  go_enter Tryz.func158, Tryz.ntmps158
  go_wp2
  go_loopw [5, 8] (fun _ i wr => ∃ k : Nat, k ≤ N.length ∧ i = .int .i64 k ∧ (∀ j (h : j < N.length), j < k → ¬ 20000 < N[j].size) ∧ wr = w) (fun _ i _ => N.length - (intOf i).toNat)
  case atStart => exact ⟨0, by omega, rfl, fun j _ h => by omega, rfl⟩
  case round =>
    obtain ⟨k, hk, rfl, hno, rfl⟩ := hrel
    by_cases hlt : k < N.length
    · obtain ⟨a, rfl, a0⟩ := hN k hlt
      have hlt' : (k : Int) < (N.length : Int) := by omega
      rcases Bool.eq_false_or_eq_true (decide (20000 < N[k].size)) with hd | hd
      · have T := fun W => tooLong_any N[k] W (hz k hlt)
        rw [hd] at T
        go_wp2_with (fail)
        refine (T _).mono ?_
        rintro e w1 ⟨rfl, rfl⟩
        go_wp2
        go_ret
        refine ⟨k, rfl, ?_, by omega, by omega, rfl⟩
        have : anyLong N = true := List.any_eq_true.2 ⟨N[k], List.getElem_mem hlt, hd⟩
        rw [this]; simp
      · have T := fun W => tooLong_any N[k] W (hz k hlt)
        rw [hd] at T
        go_wp2_with (fail)
        refine (T _).mono ?_
        rintro e w1 ⟨rfl, rfl⟩
        go_wp2
        refine ⟨⟨k + 1, by omega, by go_num, fun j hj hjk => ?_, by first | trivial | rfl⟩, by simp [intOf]; omega⟩
        by_cases e : j = k
        · subst e; simpa using hd
        · exact hno j hj (by omega)
    · obtain rfl : k = N.length := by omega
      go_wp2
      go_ret
      refine ⟨-1, rfl, ?_, by omega, by omega, rfl⟩
      have : anyLong N = false := by
        unfold anyLong
        rw [List.any_eq_false]
        intro s hs'
        obtain ⟨i, hi, rfl⟩ := List.getElem_of_mem hs'
        simpa using hno i hi hi
      rw [this]; simp
theorem containsLong_any (A : Option Addr) (N : List ByteArray) (c : Nat) (w : World) (hN : StrA w A N) (hl : N.length ≤ 100) (hs : ∀ s ∈ N, s.size ≤ maxLen) :
    Calls Tryz.prog 130 #[.slice A N.length c, .func (.func 74) #[] #[]] w fun e w' => e = .returned (.bool (anyLong N)) ∧ w' = w := by
  go_enter Tryz.func130, Tryz.ntmps130
  go_wp2_with (fail)
  refine (indexLong_any A N c w hN hl hs).mono ?_
  rintro e w1 ⟨r, rfl, h1, h2, h3, rfl⟩
  go_wp2
  go_ret
  refine ⟨retB ?_, rfl⟩
  cases h : anyLong N
  · have := h1.2 h; simp; omega
  · have : ¬ r < 0 := fun e => by rw [h1.1 e] at h; cases h
    simp; omega

theorem put_end {L : List Fil} {k : Nat} (hR : Rising L) (h : k < L.length) : putL (L.take k) L[k] = L.take (k + 1) := by
  have hlt : ∀ g ∈ L.take k, lessB g.name L[k].name = true := fun g hg => by
    obtain ⟨i, hi, rfl⟩ := List.getElem_of_mem hg
    have hik : i < k := by simp at hi; omega
    rw [List.getElem_take]
    exact List.pairwise_iff_getElem.1 hR i k (by omega) h hik
  unfold putL
  have e1 : (L.take k).filter (fun g => !decide (g.name = L[k].name)) = L.take k := by
    rw [List.filter_eq_self]
    intro g hg
    simp [lessB_ne (hlt g hg)]
  rw [e1, List.take_succ_eq_append_getElem h]
  have ins : ∀ M : List Fil, (∀ g ∈ M, lessB g.name L[k].name = true) → insF L[k] M = M ++ [L[k]] := by
    intro M
    induction M with
    | nil => intro _; rfl
    | cons g M ih =>
      intro hm
      have h0 := lessB_asymm (hm g (List.mem_cons_self ..))
      simp only [insF, h0, Bool.false_eq_true, if_false, ih (fun x hx => hm x (List.mem_cons_of_mem _ hx)), List.cons_append]
  exact ins _ hlt

/-- What openFiles answers. -/
noncomputable def openOK (L : List Fil) (N : List ByteArray) : Bool := fsOK L && N.all nameB
set_option maxHeartbeats 2000000 in
set_option maxRecDepth 1000000 in
theorem open_long (A : Option Addr) (L : List Fil) (c : Nat) (B : Option Addr) (N : List ByteArray) (d : Nat) (a0 a1 a2 a3 a4 : Addr) (w : World) (hE : Errs w a0 a1 a2 a3 a4) (hN : StrA w B N) (hl : N.length ≤ 100) (hs : ∀ s ∈ N, s.size ≤ maxLen) (hlong : anyLong N = true) :
    Calls Tryz.prog 83 #[.agg #[.slice A L.length c], .slice B N.length d] w fun e w' => e = .returned (.tuple #[.map none, errV a0]) ∧ Below w.heap.size w w' := by
  have hb0 : Below w.heap.size w (w.alloc (.cells #[.slice A L.length c] 25)) := (Below.refl _ _).alloc (Nat.le_refl _) _
  have e0 := (hE.below hb0).1.1
  have C := containsLong_any B N d _ (hN.below hb0) hl hs
  rw [hlong] at C
  go_enter Tryz.func83, Tryz.ntmps83
  go_wp2_with (fail)
  refine C.mono ?_
  rintro e w1 ⟨rfl, rfl⟩
  go_wp2
  go_quiet (fail)
  go_wp2
  exact bodyPost_ret (v := .tuple #[.map none, errV a0]) (by simp [results, Tryz.results83, go_sem]) rfl ⟨rfl, below_drewN hb0 _⟩

set_option maxHeartbeats 2000000 in
set_option maxRecDepth 1000000 in
theorem open_bad (A : Option Addr) (L : List Fil) (c : Nat) (B : Option Addr) (N : List ByteArray) (d : Nat) (a0 a1 a2 a3 a4 : Addr) (w : World) (hE : Errs w a0 a1 a2 a3 a4) (hL : Fls w w.heap.size A L) (hN : StrA w B N) (hl : N.length ≤ 100) (hs : ∀ s ∈ N, s.size ≤ maxLen) (hlong : anyLong N = false) (hbad : openOK L N = false) :
    Calls Tryz.prog 83 #[.agg #[.slice A L.length c], .slice B N.length d] w fun e w' => e = .returned (.tuple #[.map none, errV a1]) ∧ Below w.heap.size w w' := by
  have hb0 : Below w.heap.size w (w.alloc (.cells #[.slice A L.length c] 25)) := (Below.refl _ _).alloc (Nat.le_refl _) _
  have C := containsLong_any B N d _ (hN.below hb0) hl hs
  rw [hlong] at C
  have hz : ∀ i (h : i < N.length), N[i].size ≤ maxLen := fun i h => hs _ (List.getElem_mem h)
  have hB0 := Blk.fresh w 25 [.slice A L.length c]
  have b0 := hB0.cell (i := 0) rfl
  go_enter Tryz.func83, Tryz.ntmps83
  go_wp2_with (fail)
  refine C.mono ?_
  rintro e w1 ⟨rfl, rfl⟩
  have R := implRight_any A L c _ ((hL.below hb0 (Nat.le_refl _)).mono hb0.size)
  rcases Bool.eq_false_or_eq_true (fsOK L) with hok | hok
  · rw [hok] at R
    go_wp2_with (fail)
    refine R.mono ?_
    rintro e w2 ⟨rfl, hb2⟩
    have hw2 := hb0.trans (hb2.mono hb0.size)
    have hE2 := hE.below hw2
    have hN2 := hN.below hw2
    have e1 := hE2.1.2.1
    have hall : N.all nameB = false := by unfold openOK at hbad; rw [hok] at hbad; simpa using hbad
    go_wp2
    go_loopw [7, 20] (fun _ i wr => ∃ k : Nat, k ≤ N.length ∧ i = .int .i64 k ∧ (∀ j (h : j < N.length), j < k → nameB N[j] = true) ∧ wr = w2) (fun _ i _ => N.length - (intOf i).toNat)
    case atStart => exact ⟨0, by omega, rfl, fun j _ h => by omega, rfl⟩
    case round =>
      obtain ⟨k, hk, rfl, hno, rfl⟩ := hrel
      by_cases hlt : k < N.length
      · obtain ⟨a, rfl, q0⟩ := hN2 k hlt
        have hlt' : (k : Int) < (N.length : Int) := by omega
        have T := fun W => implNameRight_any N[k] W (hz k hlt)
        rcases Bool.eq_false_or_eq_true (nameB N[k]) with hd | hd
        · rw [hd] at T
          go_wp2_with (fail)
          refine (T _).mono ?_
          rintro e w3 ⟨rfl, rfl⟩
          go_wp2
          refine ⟨⟨k + 1, by omega, by go_num, fun j hj hjk => ?_, by first | trivial | rfl⟩, by simp [intOf]; omega⟩
          by_cases e : j = k
          · subst e; exact hd
          · exact hno j hj (by omega)
        · rw [hd] at T
          go_wp2_with (fail)
          refine (T _).mono ?_
          rintro e w3 ⟨rfl, rfl⟩
          go_wp2
          go_quiet (fail)
          go_wp2
          exact bodyPost_ret (v := .tuple #[.map none, errV a1]) (by simp [results, Tryz.results83, go_sem]) rfl ⟨rfl, below_drewN hw2 _⟩
      · exfalso
        rw [List.all_eq_false] at hall
        obtain ⟨s, hs1, hs2⟩ := hall
        obtain ⟨i, hi, rfl⟩ := List.getElem_of_mem hs1
        exact hs2 (hno i hi (by omega))
  · rw [hok] at R
    go_wp2_with (fail)
    refine R.mono ?_
    rintro e w2 ⟨rfl, hb2⟩
    have hw2 := hb0.trans (hb2.mono hb0.size)
    have e1 := (hE.below hw2).1.2.1
    go_wp2
    go_quiet (fail)
    go_wp2
    exact bodyPost_ret (v := .tuple #[.map none, errV a1]) (by simp [results, Tryz.results83, go_sem]) rfl ⟨rfl, below_drewN hw2 _⟩

theorem run_makeMap_hint (n : Int) (w : World) : (Instr.makeMap 95 (some (.int .i64 n))).run Tryz.prog w = .ok (.map (some w.heap.size)) (w.alloc (.map #[] 0)) := by
  simp [Instr.makeMap, go_sem]
set_option maxHeartbeats 2000000 in
set_option maxRecDepth 1000000 in
theorem open_ok (A : Option Addr) (L : List Fil) (c : Nat) (B : Option Addr) (N : List ByteArray) (d : Nat) (w : World) (hL : Fls w w.heap.size A L) (hN : StrA w B N) (hl : N.length ≤ 100) (hs : ∀ s ∈ N, s.size ≤ maxLen) (hlong : anyLong N = false) (hgood : openOK L N = true) :
    Calls Tryz.prog 83 #[.agg #[.slice A L.length c], .slice B N.length d] w fun e w' => ∃ b, e = .returned (.tuple #[.map (some b), .nilIface]) ∧ MapF w' b L.length L ∧ w.heap.size ≤ b ∧ Below w.heap.size w w' := by
  have hb0 : Below w.heap.size w (w.alloc (.cells #[.slice A L.length c] 25)) := (Below.refl _ _).alloc (Nat.le_refl _) _
  have C := containsLong_any B N d _ (hN.below hb0) hl hs
  rw [hlong] at C
  have hz : ∀ i (h : i < N.length), N[i].size ≤ maxLen := fun i h => hs _ (List.getElem_mem h)
  have hB0 := Blk.fresh w 25 [.slice A L.length c]
  have b0 := hB0.cell (i := 0) rfl
  have hok : fsOK L = true := by unfold openOK at hgood; simp only [Bool.and_eq_true] at hgood; exact hgood.1
  have hall : N.all nameB = true := by unfold openOK at hgood; simp only [Bool.and_eq_true] at hgood; exact hgood.2
  have hR := rising_of_ok hok
  have h12 := (fsOK_iff.1 hok).1
  have R := implRight_any A L c _ ((hL.below hb0 (Nat.le_refl _)).mono hb0.size)
  rw [hok] at R
  have hmm := run_makeMap_hint
  go_enter Tryz.func83, Tryz.ntmps83
  go_wp2_with (fail)
  refine C.mono ?_
  rintro e w1 ⟨rfl, rfl⟩
  go_wp2_with (fail)
  refine R.mono ?_
  rintro e w2 ⟨rfl, hb2⟩
  have hw2 := hb0.trans (hb2.mono hb0.size)
  have hN2 := hN.below hw2
  have hB2 := hB0.below hb2 hB0.lt
  have b2 := hB2.cell (i := 0) rfl
  clear b0
  go_wp2
  go_loopw [7, 20] (fun _ i wr => ∃ k : Nat, k ≤ N.length ∧ i = .int .i64 k ∧ wr = w2) (fun _ i _ => N.length - (intOf i).toNat)
  case atStart => exact ⟨0, by omega, rfl, rfl⟩
  case round =>
    obtain ⟨k, hk, rfl, rfl⟩ := hrel
    by_cases hlt : k < N.length
    · obtain ⟨a, rfl, q0⟩ := hN2 k hlt
      have hlt' : (k : Int) < (N.length : Int) := by omega
      have T := fun W => implNameRight_any N[k] W (hz k hlt)
      have hd : nameB N[k] = true := List.all_eq_true.1 hall _ (List.getElem_mem hlt)
      rw [hd] at T
      go_wp2_with (fail)
      refine (T _).mono ?_
      rintro e w3 ⟨rfl, rfl⟩
      go_wp2
      exact ⟨⟨k + 1, by omega, by go_num, by first | trivial | rfl⟩, by simp [intOf]; omega⟩
    · obtain rfl : k = N.length := by omega
      have hB3 := hB2.alloc (.map #[] 0)
      have b3 := hB3.cell (i := 0) rfl
      have hw3 := hw2.alloc hw2.size (.map #[] 0)
      have M3 : MapF (wr.alloc (.map #[] 0)) wr.heap.size 0 [] := World.ownsMap_made wr Tryz.prog 9 filElem
      have hbb := hB2.lt
      have hws := hw2.size
      go_wp2
      generalize wr.heap.size = bm at M3 hbb hws ⊢
      go_loopw [10, 36] (fun _ i wq => ∃ k : Nat, k ≤ L.length ∧ i = .int .i64 k ∧ MapF wq bm k (L.take k) ∧ Blk wq w.heap.size 25 [.slice A L.length c] ∧ Below w.heap.size w wq) (fun _ i _ => L.length - (intOf i).toNat)
      case atStart => exact ⟨0, by omega, rfl, M3, hB3, hw3⟩
      case round =>
        obtain ⟨k, hk2, rfl, hM, hBq, hbq⟩ := hrel
        by_cases hlt2 : k < L.length
        · obtain ⟨a, rfl, hab, c0, c1, c2, hff⟩ := (hL.below hbq (Nat.le_refl _)).at k hlt2
          have hM1 := World.ownsMap.alloc hM (.cells #[.string L[k].name, .string L[k].data, .int .i64 L[k].sync] 53)
          have hB1 := hBq.alloc (.cells #[.string L[k].name, .string L[k].data, .int .i64 L[k].sync] 53)
          have hb1 := hbq.alloc hbq.size (.cells #[.string L[k].name, .string L[k].data, .int .i64 L[k].sync] 53)
          have hlt' : (k : Int) < (L.length : Int) := by omega
          go_wp2_with (at_mapUpdate; refine wpList_mapUpdate_own _ rfl _ _ _ 95 rfl 9 53 keyed Tryz.underlying95 filElem bm k _ rfl hM1 (by unfold maxLen; omega) _ _ _ rfl rfl (key_mk hff.1) (fileD L[k]) [] (filElem_mk L[k]) ?_)
          intro w5 hM5 hg5
          rw [← List.map_take, put_D, put_end hR hlt2] at hM5
          have hB5 := hB1.grown hg5 (by simp; omega)
          have hb5 := hb1.grown hg5 (by have := hbq.size; simp; omega) (fun j e => by cases e; omega)
          go_wp2
          exact ⟨⟨k + 1, by omega, by go_num, hM5, hB5, hb5⟩, by simp [intOf]; omega⟩
        · obtain rfl : k = L.length := by omega
          rw [List.take_of_length_le (Nat.le_refl _)] at hM
          go_wp2
          exact bodyPost_ret (v := .tuple #[.map (some bm), .nilIface]) (by simp [results, Tryz.results83, go_sem]) rfl ⟨_, rfl, hM, hws, hbq⟩
end Go.Proofs.YtebkblmejkkhfaaGreatDoor
