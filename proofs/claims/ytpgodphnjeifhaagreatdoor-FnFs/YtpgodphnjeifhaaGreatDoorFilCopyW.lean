/- The specification's search for a file. spec.l03Ill; a code's answer. The specification's copy of a file system, and its smaller of two numbers. -/
import Derived.Test.YtpgodphnjeifhaaGreatDoorFFindW
import Derived.Test.YtpgodphnjeifhaaGreatDoorFSynW
import Derived.Test.YtpgodphnjeifhaaGreatDoorFilRightW
namespace Go.Proofs.YtpgodphnjeifhaaGreatDoor
open Go.RowKit
set_option linter.unusedVariables false
set_option maxRecDepth 1000000

/-- The code with which every function on files begins. -/
noncomputable def codeOf (L : List Fil) (s : ByteArray) : Int := if 20000 < s.size then 2 else if (fsOK L && nameB s) = false then 1 else if findF L s = none then 6 else 0
theorem find_first {L : List Fil} {s : ByteArray} {k : Nat} (h : k < L.length) (hn : L[k].name = s) (hno : ∀ j (hj : j < L.length), j < k → L[j].name ≠ s) : findF L s = some L[k] := by
  unfold findF
  rw [List.find?_eq_some_iff_append]
  refine ⟨by simpa using hn, L.take k, L.drop (k + 1), ?_, ?_⟩
  · rw [← List.drop_eq_getElem_cons h, List.take_append_drop]
  · intro a ha
    obtain ⟨i, hi, rfl⟩ := List.getElem_of_mem ha
    have : i < k := by simp at hi; omega
    rw [List.getElem_take]
    simpa using hno i (by omega) this
theorem find_no {L : List Fil} {s : ByteArray} (hno : ∀ j (hj : j < L.length), L[j].name ≠ s) : findF L s = none := by
  unfold findF
  rw [List.find?_eq_none]
  intro a ha
  obtain ⟨i, hi, rfl⟩ := List.getElem_of_mem ha
  simpa using hno i hi
/-- What l03File answers. -/
def FoundAt (L : List Fil) (s : ByteArray) (r : Int) : Prop := (findF L s = none ∧ r = -1) ∨ ∃ (i : Nat) (h : i < L.length), r = i ∧ findF L s = some L[i] ∧ L[i].name = s

set_option maxHeartbeats 1000000 in
theorem l03File_any (A : Option Addr) (L : List Fil) (c : Nat) (s : ByteArray) (w : World) (hL : Fls w w.heap.size A L) :
    Calls Tryz.prog 77 #[.agg #[.slice A L.length c], .string s] w fun e w' => ∃ r, e = .returned (.int .i64 r) ∧ FoundAt L s r ∧ Below w.heap.size w w' := by
  have hn := hL.1
  unfold maxLen at hn
  have hB0 := Blk.fresh w 25 [.slice A L.length c]
  have hb0 : Below w.heap.size w (w.alloc (.cells #[.slice A L.length c] 25)) := (Below.refl _ _).alloc (Nat.le_refl _) _
  go_enter Tryz.func77, Tryz.ntmps77
  go_wp2
  go_loopw [5] (fun i wr => ∃ k : Nat, k ≤ L.length ∧ i = .int .i64 k ∧ (∀ j (h : j < L.length), j < k → L[j].name ≠ s) ∧ wr = w.alloc (.cells #[.slice A L.length c] 25)) (fun i _ => L.length - (intOf i).toNat)
  case atStart => exact ⟨0, by omega, rfl, fun j _ h => by omega, rfl⟩
  case round =>
    obtain ⟨k, hk, rfl, hno, rfl⟩ := hrel
    have b0 := hB0.cell (i := 0) rfl
    by_cases hlt : k < L.length
    · obtain ⟨a, rfl, hab, c0, c1, c2, hff⟩ := (hL.below hb0 (Nat.le_refl _)).at k hlt
      have hlt' : (k : Int) < (L.length : Int) := by omega
      by_cases hs : L[k].name = s
      · have hd : (L[k].name.toList == s.toList) = true := by rw [hs]; simp
        go_wp2
        all_goals first
          | (go_ret; exact ⟨k, rfl, .inr ⟨k, hlt, rfl, find_first hlt hs hno, hs⟩, hb0⟩)
          | (exfalso; simp_all)
      · have hd : (L[k].name.toList == s.toList) = false := by
          rw [beq_eq_false_iff_ne]; intro e; rw [Lib.toList_data, Lib.toList_data] at e; exact hs (bytes_inj e)
        go_wp2
        all_goals first
          | (refine ⟨⟨k + 1, by omega, by go_num, fun j hj hjk => ?_, by first | trivial | rfl⟩, by simp [intOf]; omega⟩
             by_cases e : j = k
             · subst e; exact hs
             · exact hno j hj (by omega))
          | (exfalso; simp_all)
    · obtain rfl : k = L.length := by omega
      go_wp2
      go_ret
      exact ⟨-1, rfl, .inl ⟨find_no fun j hj => hno j hj hj, rfl⟩, hb0⟩

set_option maxHeartbeats 1000000 in
theorem l03Begin_any (A : Option Addr) (L : List Fil) (c : Nat) (s : ByteArray) (w : World) (hL : Fls w w.heap.size A L) (hs : s.size ≤ maxLen) :
    Calls Tryz.prog 52 #[.agg #[.slice A L.length c], .string s] w fun e w' => ∃ k, e = .returned (.tuple #[.int .i64 k, .int .i64 (codeOf L s)]) ∧ (codeOf L s = 0 → ∃ (i : Nat) (h : i < L.length), k = i ∧ findF L s = some L[i] ∧ L[i].name = s) ∧ (codeOf L s = 6 → findF L s = none) ∧ Below w.heap.size w w' := by
  have hs' := hs
  unfold maxLen at hs'
  have hB0 := Blk.fresh w 25 [.slice A L.length c]
  have b0 := hB0.cell (i := 0) rfl
  have hb0 : Below w.heap.size w (w.alloc (.cells #[.slice A L.length c] 25)) := (Below.refl _ _).alloc (Nat.le_refl _) _
  have R := specRight_any A L c _ ((hL.below hb0 (Nat.le_refl _)).mono hb0.size)
  by_cases hlong : 20000 < s.size
  · have HC : Hid (codeOf L s = 2) := by unfold Hid codeOf; rw [if_pos hlong]
    go_enter Tryz.func52, Tryz.ntmps52
    go_wp2
    exact bodyPost_ret (v := .tuple #[.int .i64 (-1), .int .i64 2]) (by simp [results, Tryz.results52, go_sem]) rfl ⟨-1, by rw [HC.out], fun e => (by rw [HC.out] at e; cases e), fun e => (by rw [HC.out] at e; cases e), hb0⟩
  · rcases Bool.eq_false_or_eq_true (fsOK L) with hok | hok
    · rw [hok] at R
      rcases Bool.eq_false_or_eq_true (nameB s) with hN | hN
      · have NR : ∀ W, Calls Tryz.prog 54 #[.string s] W fun e w' => e = .returned (.bool true) ∧ W = w' := fun W => by have := specNameRight_any s W hs; rw [hN] at this; exact this
        go_enter Tryz.func52, Tryz.ntmps52
        go_wp2_with (fail)
        refine R.mono ?_
        rintro e w1 ⟨rfl, hb1⟩
        have hw1 := hb0.trans (hb1.mono hb0.size)
        have b1 := (hB0.below hb1 hB0.lt).cell (i := 0) rfl
        clear b0
        go_wp2_with (fail)
        refine (NR _).mono ?_
        rintro e w2 ⟨rfl, rfl⟩
        go_wp2_with (fail)
        refine (l03File_any A L c s _ ((hL.below hw1 (Nat.le_refl _)).mono hw1.size)).mono ?_
        rintro e w3 ⟨r, rfl, hr, hb3⟩
        have hw3 := hw1.trans (hb3.mono hw1.size)
        rcases hr with ⟨hno, rfl⟩ | ⟨i, hi, rfl, hf, hnm⟩
        · have HC : Hid (codeOf L s = 6) := by unfold Hid codeOf; rw [if_neg hlong, hok, hN, if_neg (by simp), if_pos hno]
          go_wp2
          exact bodyPost_ret (v := .tuple #[.int .i64 (-1), .int .i64 6]) (by simp [results, Tryz.results52, go_sem]) rfl ⟨-1, by rw [HC.out], fun e => (by rw [HC.out] at e; cases e), fun _ => hno, hw3⟩
        · have HC : Hid (codeOf L s = 0) := by unfold Hid codeOf; rw [if_neg hlong, hok, hN, if_neg (by simp), hf, if_neg (by simp)]
          have hi' : ¬ (i : Int) < 0 := by omega
          go_wp2
          exact bodyPost_ret (v := .tuple #[.int .i64 i, .int .i64 0]) (by simp [results, Tryz.results52, go_sem]) rfl ⟨i, by rw [HC.out], fun _ => ⟨i, hi, rfl, hf, hnm⟩, fun e => (by rw [HC.out] at e; cases e), hw3⟩
      · have NR : ∀ W, Calls Tryz.prog 54 #[.string s] W fun e w' => e = .returned (.bool false) ∧ W = w' := fun W => by have := specNameRight_any s W hs; rw [hN] at this; exact this
        have HC : Hid (codeOf L s = 1) := by unfold Hid codeOf; rw [if_neg hlong, hN, if_pos (by simp)]
        go_enter Tryz.func52, Tryz.ntmps52
        go_wp2_with (fail)
        refine R.mono ?_
        rintro e w1 ⟨rfl, hb1⟩
        have hw1 := hb0.trans (hb1.mono hb0.size)
        go_wp2_with (fail)
        refine (NR _).mono ?_
        rintro e w2 ⟨rfl, rfl⟩
        go_wp2
        exact bodyPost_ret (v := .tuple #[.int .i64 (-1), .int .i64 1]) (by simp [results, Tryz.results52, go_sem]) rfl ⟨-1, by rw [HC.out], fun e => (by rw [HC.out] at e; cases e), fun e => (by rw [HC.out] at e; cases e), hw1⟩
    · rw [hok] at R
      have HC : Hid (codeOf L s = 1) := by unfold Hid codeOf; rw [if_neg hlong, hok, if_pos (by simp)]
      go_enter Tryz.func52, Tryz.ntmps52
      go_wp2_with (fail)
      refine R.mono ?_
      rintro e w1 ⟨rfl, hb1⟩
      have hw1 := hb0.trans (hb1.mono hb0.size)
      go_wp2
      exact bodyPost_ret (v := .tuple #[.int .i64 (-1), .int .i64 1]) (by simp [results, Tryz.results52, go_sem]) rfl ⟨-1, by rw [HC.out], fun e => (by rw [HC.out] at e; cases e), fun e => (by rw [HC.out] at e; cases e), hw1⟩
end Go.Proofs.YtpgodphnjeifhaaGreatDoor

namespace Go.Proofs.YtpgodphnjeifhaaGreatDoor
open Go.RowKit
set_option linter.unusedVariables false
set_option maxRecDepth 1000000

theorem ownF_nil (w : World) (base : Nat) : OwnF w base (.slice none 0 0) [] := ⟨World.ownsRow_nil _ _ _ _, fun f h => by cases h⟩
set_option maxHeartbeats 1000000 in
theorem ill_any (cd : Int) (w : World) : Calls Tryz.prog 51 #[.int .i64 cd] w fun e w' => e = .returned (fsOut (.slice none 0 0) cd) ∧ Below w.heap.size w w' := by
  go_enter Tryz.func51, Tryz.ntmps51
  go_wp2
  exact bodyPost_ret (v := fsOut (.slice none 0 0) cd) (by simp [results, Tryz.results51, go_sem]) rfl ⟨rfl, (Below.refl _ _).alloc (Nat.le_refl _) _⟩
theorem any_one (s : ByteArray) : anyLong [s] = decide (20000 < s.size) := by simp [anyLong]
theorem open_one (L : List Fil) (s : ByteArray) : openOK L [s] = (fsOK L && nameB s) := by simp [openOK]
/-- What a change of one name meets. -/
theorem code_cases (L : List Fil) (s : ByteArray) :
    (anyLong [s] = true ∧ codeOf L s = 2) ∨ (anyLong [s] = false ∧ openOK L [s] = false ∧ codeOf L s = 1) ∨
    (anyLong [s] = false ∧ openOK L [s] = true ∧ fsOK L = true ∧ findF L s = none ∧ codeOf L s = 6) ∨
    (anyLong [s] = false ∧ openOK L [s] = true ∧ fsOK L = true ∧ (∃ (i : Nat) (h : i < L.length), findF L s = some L[i] ∧ L[i].name = s) ∧ codeOf L s = 0) := by
  rw [any_one, open_one]
  unfold codeOf
  by_cases h : 20000 < s.size
  · exact .inl ⟨by simpa using h, by rw [if_pos h]⟩
  · refine .inr ?_
    rw [if_neg h]
    cases hg : (fsOK L && nameB s) with
    | false => exact .inl ⟨by simpa using h, rfl, by simp⟩
    | true =>
      refine .inr ?_
      have hok : fsOK L = true := by simp only [Bool.and_eq_true] at hg; exact hg.1
      cases hf : findF L s with
      | none => exact .inl ⟨by simpa using h, rfl, hok, rfl, by simp⟩
      | some g =>
        obtain ⟨i, hi, hig⟩ := List.getElem_of_mem (List.mem_of_find?_eq_some hf)
        have hn : g.name = s := by simpa using List.find?_some hf
        exact .inr ⟨by simpa using h, rfl, hok, ⟨i, hi, by rw [hig], by rw [hig, hn]⟩, by simp⟩
end Go.Proofs.YtpgodphnjeifhaaGreatDoor

namespace Go.Proofs.YtpgodphnjeifhaaGreatDoor
open Go.RowKit
set_option linter.unusedVariables false
set_option maxRecDepth 1000000

theorem fls_news {w : World} {B : Nat} {a : Addr} {L : List Fil} (h : Fls w B (some a) L) : ∀ j u, (flat L)[j]? = some u → w.cell? (a.add j) = some u := by
  intro j u hj
  have hjl : j < L.length * 3 := by rw [← flat_len]; exact (List.getElem?_eq_some_iff.1 hj).1
  have hi : j / 3 < L.length := by omega
  have hg := flat_get L (j / 3) hi (j % 3) (by omega)
  rw [show j / 3 * 3 + j % 3 = j by omega, hj] at hg
  obtain ⟨a', e, _, c0, c1, c2, _⟩ := h.2 (j / 3) hi
  cases e
  have : j % 3 = 0 ∨ j % 3 = 1 ∨ j % 3 = 2 := by omega
  rcases this with e | e | e
  · rw [e] at hg
    rw [show j = j / 3 * 3 by omega, c0]
    exact hg.symm
  · rw [e] at hg
    rw [show j = j / 3 * 3 + 1 by omega, c1]
    exact hg.symm
  · rw [e] at hg
    rw [show j = j / 3 * 3 + 2 by omega, c2]
    exact hg.symm

theorem l01Min_any (a b : Int) (w : World) : Calls Tryz.prog 68 #[.int .i64 a, .int .i64 b] w fun e w' => e = .returned (.int .i64 (min a b)) ∧ w' = w := by
  by_cases h : a < b
  · go_enter Tryz.func68, Tryz.ntmps68
    go_wp2
    go_ret
    exact ⟨retI (by omega), rfl⟩
  · go_enter Tryz.func68, Tryz.ntmps68
    go_wp2
    go_ret
    exact ⟨retI (by omega), rfl⟩

set_option maxHeartbeats 1000000 in
theorem l03Copy_any (A : Option Addr) (L : List Fil) (c : Nat) (w : World) (hL : Fls w w.heap.size A L) (hS : Small L) :
    Calls Tryz.prog 67 #[.agg #[.slice A L.length c]] w fun e w' => ∃ C x, e = .returned (.agg #[.slice C L.length x]) ∧ OwnF w' (w.heap.size + 2) (.slice C L.length x) L ∧ Below w.heap.size w w' := by
  obtain ⟨i0, hi, hz0, hz1, hz2⟩ := info_parts infoFile
  have hn := hS.1
  have hf : ∀ f ∈ L, f.fits := fun f h => by obtain ⟨i, hi, rfl⟩ := List.getElem_of_mem h; exact (hL.2 i hi).choose_spec.2.2.2.2.2
  have hb0 : Below w.heap.size w (((w.alloc (.cells #[.slice A L.length c] 25)).alloc (.cells #[.slice none 0 0] 25)).alloc (.cells #[] 53)) := (((Below.refl _ _).alloc (Nat.le_refl _) _).alloc (by simp) _).alloc (by simp; omega) _
  have hT0 := (Blk.fresh (w.alloc (.cells #[.slice A L.length c] 25)) 25 [.slice none 0 0]).alloc (.cells #[] 53)
  simp only [World.size_alloc] at hT0
  have hL0 := hL.below hb0 (Nat.le_refl _)
  have hown0 : (((w.alloc (.cells #[.slice A L.length c] 25)).alloc (.cells #[.slice none 0 0] 25)).alloc (.cells #[] 53)).ownsRow (w.heap.size + 2) 53 3 (.slice (some ⟨w.heap.size + 1 + 1, 0, none⟩) 0 0) 0 [] :=
    ⟨rfl, .inr ⟨w.heap.size + 1 + 1, 0, #[], rfl, by omega, by have := heap_alloc_new ((w.alloc (.cells #[.slice A L.length c] 25)).alloc (.cells #[.slice none 0 0] 25)) (.cells #[] 53); simpa using this, Nat.le_refl _, by simp [maxLen], rfl, rfl⟩⟩
  cases A with
  | none =>
    have hz : L = [] := by
      cases L with
      | nil => rfl
      | cons f L => obtain ⟨a, e, _⟩ := hL.2 0 (by simp); cases e
    subst hz
    have ha := fun ty => run_append_owned_none (P := Tryz.prog) _ _ 23 ty 53 i0 3 Tryz.underlying23 hi _ _ _ hown0
    have t0 := hT0.cell (i := 0) rfl
    have f0 := hT0.froz 0
    go_enter Tryz.func67, Tryz.ntmps67
    go_wp2
    refine bodyPost_ret (v := .agg #[.slice (some ⟨w.heap.size + 1 + 1, 0, none⟩) 0 0]) (by simp [results, Tryz.results67, go_sem]) rfl ⟨_, _, rfl, ⟨⟨rfl, .inr ⟨w.heap.size + 1 + 1, 0, #[], rfl, by omega, ?_, Nat.le_refl _, by simp [maxLen], rfl, rfl⟩⟩, by simp⟩, ?_⟩
    · have := heap_alloc_new ((w.alloc (.cells #[.slice none 0 c] 25)).alloc (.cells #[.slice (some ⟨w.heap.size + 1 + 1, 0, none⟩) 0 0] 25)) (.cells #[] 53)
      simpa using this
    · exact (((Below.refl _ _).alloc (Nat.le_refl _) _).alloc (by simp) _).alloc (by simp; omega) _
  | some a =>
    go_enter Tryz.func67, Tryz.ntmps67
    go_wp2_with (at_builtin; refine wpList_append_own _ rfl _ _ 23 rfl (w.heap.size + 2) 53 i0 (.agg #[.string ⟨#[]⟩, .string ⟨#[]⟩, .int .i64 0]) 3 40 Tryz.underlying23 hi hz0 hz1 hz2 rfl (by decide) _ _ _ rfl hown0 a L.length c (flat L) rfl (flat_len L) (fls_news hL0) (flat_one L) (by unfold maxLen; omega) (by omega) (by simp) ?_)
    intro v' w1 hown1 hgrow1 _
    have hF1 : OwnF w1 (w.heap.size + 2) v' L := ⟨hown1, hf⟩
    have hT1 := hT0.grown hgrow1 (by simp [Value.ownBlock])
    have hw1 := hb0.grown hgrow1 (by have := hb0.size; exact this) (fun j e => by simp [Value.ownBlock] at e; omega)
    obtain ⟨C, x, rfl, _⟩ := hF1.slice
    have t0 := hT1.cell (i := 0) rfl
    have f0 := hT1.froz 0
    go_wp2
    refine bodyPost_ret (v := .agg #[.slice C L.length x]) (by simp [results, Tryz.results67, go_sem, t0]) rfl ⟨C, x, rfl, ?_, hw1.setCell (by simp) _⟩
    exact hF1.far (p := ⟨w.heap.size + 1, 0, none⟩) (by simp) _
end Go.Proofs.YtpgodphnjeifhaaGreatDoor
