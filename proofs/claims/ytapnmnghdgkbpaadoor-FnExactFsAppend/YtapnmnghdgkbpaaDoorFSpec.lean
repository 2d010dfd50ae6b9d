/- The specification's search for a file. -/
import Derived.Test.YtapnmnghdgkbpaaDoorFMap
namespace Go.Proofs.YtapnmnghdgkbpaaDoor
open Go.RowKit
set_option linter.unusedVariables false
set_option maxRecDepth 1000000

/-- The code with which every function on files begins. -/
noncomputable def codeOf (L : List Fil) (s : ByteArray) : Int := if 20000 < s.size then 2 else if (fsOK L && nameB s) = false then 1 else if findF L s = none then 6 else 0
theorem find_first {L : List Fil} {s : ByteArray} {k : Nat} (h : k < L.length) (hn : L[k].name = s) (hno : ∀ j (hj : j < L.length), j < k → L[j].name ≠ s) : findF L s = some L[k] := by
  unfold findF
  rw [List.find?_eq_some_iff_append]
  refine ⟨by simpa using hn, L.take k, L.drop (k + 1), ?_, ?_⟩
  · rw [← List.drop_eq_getElem_cons h, List.take_append_drop]
  · intro a ha
    obtain ⟨i, hi, rfl⟩ := List.getElem_of_mem ha
    have : i < k := by simp at hi; omega
    rw [List.getElem_take]
    simpa using hno i (by omega) this
theorem find_no {L : List Fil} {s : ByteArray} (hno : ∀ j (hj : j < L.length), L[j].name ≠ s) : findF L s = none := by
  unfold findF
  rw [List.find?_eq_none]
  intro a ha
  obtain ⟨i, hi, rfl⟩ := List.getElem_of_mem ha
  simpa using hno i hi
/-- What l03File answers. -/
def FoundAt (L : List Fil) (s : ByteArray) (r : Int) : Prop := (findF L s = none ∧ r = -1) ∨ ∃ (i : Nat) (h : i < L.length), r = i ∧ findF L s = some L[i] ∧ L[i].name = s

set_option maxHeartbeats 1000000 in
theorem l03File_any (A : Option Addr) (L : List Fil) (c : Nat) (s : ByteArray) (w : World) (hL : Fls w w.heap.size A L) :
    Calls Tryd.prog 106 #[.agg #[.slice A L.length c], .string s] w fun e w' => ∃ r, e = .returned (.int .i64 r) ∧ FoundAt L s r ∧ Below w.heap.size w w' := by
  have hn := hL.1
  unfold maxLen at hn
  have hB0 := Blk.fresh w 50 [.slice A L.length c]
  have hb0 : Below w.heap.size w (w.alloc (.cells #[.slice A L.length c] 50)) := (Below.refl _ _).alloc (Nat.le_refl _) _
  go_enter Tryd.func106, Tryd.ntmps106
  go_wp2
  go_loopw [5] (fun i wr => ∃ k : Nat, k ≤ L.length ∧ i = .int .i64 k ∧ (∀ j (h : j < L.length), j < k → L[j].name ≠ s) ∧ wr = w.alloc (.cells #[.slice A L.length c] 50)) (fun i _ => L.length - (intOf i).toNat)
  case atStart => exact ⟨0, by omega, rfl, fun j _ h => by omega, rfl⟩
  case round =>
    obtain ⟨k, hk, rfl, hno, rfl⟩ := hrel
    have b0 := hB0.cell (i := 0) rfl
    by_cases hlt : k < L.length
    · obtain ⟨a, rfl, hab, c0, c1, c2, hff⟩ := (hL.below hb0 (Nat.le_refl _)).at k hlt
      have hlt' : (k : Int) < (L.length : Int) := by omega
      by_cases hs : L[k].name = s
      · have hd : (L[k].name.toList == s.toList) = true := by rw [hs]; simp
        go_wp2
        all_goals first
          | (go_ret; exact ⟨k, rfl, .inr ⟨k, hlt, rfl, find_first hlt hs hno, hs⟩, hb0⟩)
          | (exfalso; simp_all)
      · have hd : (L[k].name.toList == s.toList) = false := by
          rw [beq_eq_false_iff_ne]; intro e; rw [Lib.toList_data, Lib.toList_data] at e; exact hs (bytes_inj e)
        go_wp2
        all_goals first
          | (refine ⟨⟨k + 1, by omega, by go_num, fun j hj hjk => ?_, by first | trivial | rfl⟩, by simp [intOf]; omega⟩
             by_cases e : j = k
             · subst e; exact hs
             · exact hno j hj (by omega))
          | (exfalso; simp_all)
    · obtain rfl : k = L.length := by omega
      go_wp2
      go_ret
      exact ⟨-1, rfl, .inl ⟨find_no fun j hj => hno j hj hj, rfl⟩, hb0⟩

set_option maxHeartbeats 1000000 in
theorem l03Begin_any (A : Option Addr) (L : List Fil) (c : Nat) (s : ByteArray) (w : World) (hL : Fls w w.heap.size A L) (hs : s.size ≤ maxLen) :
    Calls Tryd.prog 67 #[.agg #[.slice A L.length c], .string s] w fun e w' => ∃ k, e = .returned (.tuple #[.int .i64 k, .int .i64 (codeOf L s)]) ∧ (codeOf L s = 0 → ∃ (i : Nat) (h : i < L.length), k = i ∧ findF L s = some L[i] ∧ L[i].name = s) ∧ (codeOf L s = 6 → findF L s = none) ∧ Below w.heap.size w w' := by
  have hs' := hs
  unfold maxLen at hs'
  have hB0 := Blk.fresh w 50 [.slice A L.length c]
  have b0 := hB0.cell (i := 0) rfl
  have hb0 : Below w.heap.size w (w.alloc (.cells #[.slice A L.length c] 50)) := (Below.refl _ _).alloc (Nat.le_refl _) _
  have R := specRight_any A L c _ ((hL.below hb0 (Nat.le_refl _)).mono hb0.size)
  by_cases hlong : 20000 < s.size
  · have HC : Hid (codeOf L s = 2) := by unfold Hid codeOf; rw [if_pos hlong]
    go_enter Tryd.func67, Tryd.ntmps67
    go_wp2
    exact bodyPost_ret (v := .tuple #[.int .i64 (-1), .int .i64 2]) (by simp [results, Tryd.results67, go_sem]) rfl ⟨-1, by rw [HC.out], fun e => (by rw [HC.out] at e; cases e), fun e => (by rw [HC.out] at e; cases e), hb0⟩
  · rcases Bool.eq_false_or_eq_true (fsOK L) with hok | hok
    · rw [hok] at R
      rcases Bool.eq_false_or_eq_true (nameB s) with hN | hN
      · have NR : ∀ W, Calls Tryd.prog 84 #[.string s] W fun e w' => e = .returned (.bool true) ∧ W = w' := fun W => by have := specNameRight_any s W hs; rw [hN] at this; exact this
        go_enter Tryd.func67, Tryd.ntmps67
        go_wp2_with (fail)
        refine R.mono ?_
        rintro e w1 ⟨rfl, hb1⟩
        have hw1 := hb0.trans (hb1.mono hb0.size)
        have b1 := (hB0.below hb1 hB0.lt).cell (i := 0) rfl
        clear b0
        go_wp2_with (fail)
        refine (NR _).mono ?_
        rintro e w2 ⟨rfl, rfl⟩
        go_wp2_with (fail)
        refine (l03File_any A L c s _ ((hL.below hw1 (Nat.le_refl _)).mono hw1.size)).mono ?_
        rintro e w3 ⟨r, rfl, hr, hb3⟩
        have hw3 := hw1.trans (hb3.mono hw1.size)
        rcases hr with ⟨hno, rfl⟩ | ⟨i, hi, rfl, hf, hnm⟩
        · have HC : Hid (codeOf L s = 6) := by unfold Hid codeOf; rw [if_neg hlong, hok, hN, if_neg (by simp), if_pos hno]
          go_wp2
          exact bodyPost_ret (v := .tuple #[.int .i64 (-1), .int .i64 6]) (by simp [results, Tryd.results67, go_sem]) rfl ⟨-1, by rw [HC.out], fun e => (by rw [HC.out] at e; cases e), fun _ => hno, hw3⟩
        · have HC : Hid (codeOf L s = 0) := by unfold Hid codeOf; rw [if_neg hlong, hok, hN, if_neg (by simp), hf, if_neg (by simp)]
          have hi' : ¬ (i : Int) < 0 := by omega
          go_wp2
          exact bodyPost_ret (v := .tuple #[.int .i64 i, .int .i64 0]) (by simp [results, Tryd.results67, go_sem]) rfl ⟨i, by rw [HC.out], fun _ => ⟨i, hi, rfl, hf, hnm⟩, fun e => (by rw [HC.out] at e; cases e), hw3⟩
      · have NR : ∀ W, Calls Tryd.prog 84 #[.string s] W fun e w' => e = .returned (.bool false) ∧ W = w' := fun W => by have := specNameRight_any s W hs; rw [hN] at this; exact this
        have HC : Hid (codeOf L s = 1) := by unfold Hid codeOf; rw [if_neg hlong, hN, if_pos (by simp)]
        go_enter Tryd.func67, Tryd.ntmps67
        go_wp2_with (fail)
        refine R.mono ?_
        rintro e w1 ⟨rfl, hb1⟩
        have hw1 := hb0.trans (hb1.mono hb0.size)
        go_wp2_with (fail)
        refine (NR _).mono ?_
        rintro e w2 ⟨rfl, rfl⟩
        go_wp2
        exact bodyPost_ret (v := .tuple #[.int .i64 (-1), .int .i64 1]) (by simp [results, Tryd.results67, go_sem]) rfl ⟨-1, by rw [HC.out], fun e => (by rw [HC.out] at e; cases e), fun e => (by rw [HC.out] at e; cases e), hw1⟩
    · rw [hok] at R
      have HC : Hid (codeOf L s = 1) := by unfold Hid codeOf; rw [if_neg hlong, hok, if_pos (by simp)]
      go_enter Tryd.func67, Tryd.ntmps67
      go_wp2_with (fail)
      refine R.mono ?_
      rintro e w1 ⟨rfl, hb1⟩
      have hw1 := hb0.trans (hb1.mono hb0.size)
      go_wp2
      exact bodyPost_ret (v := .tuple #[.int .i64 (-1), .int .i64 1]) (by simp [results, Tryd.results67, go_sem]) rfl ⟨-1, by rw [HC.out], fun e => (by rw [HC.out] at e; cases e), fun e => (by rw [HC.out] at e; cases e), hw1⟩
end Go.Proofs.YtapnmnghdgkbpaaDoor
