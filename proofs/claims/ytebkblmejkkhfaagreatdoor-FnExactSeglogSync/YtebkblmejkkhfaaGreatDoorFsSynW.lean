/- The specification's search for a file. spec.l03Ill; a code's answer. FsSync: spec and impl answer alike. -/
import Derived.Test.YtebkblmejkkhfaaGreatDoorFMapW
import Derived.Test.YtebkblmejkkhfaaGreatDoorFSynW
import Derived.Test.YtebkblmejkkhfaaGreatDoorStrW
import Derived.RangeFuncOwn
import Derived.BigRegion
namespace Go.Proofs.YtebkblmejkkhfaaGreatDoor
open Go.RowKit
set_option linter.unusedVariables false
set_option maxRecDepth 1000000

/-- The code with which every function on files begins. -/
noncomputable def codeOf (L : List Fil) (s : ByteArray) : Int := if 20000 < s.size then 2 else if (fsOK L && nameB s) = false then 1 else if findF L s = none then 6 else 0
theorem find_first {L : List Fil} {s : ByteArray} {k : Nat} (h : k < L.length) (hn : L[k].name = s) (hno : ∀ j (hj : j < L.length), j < k → L[j].name ≠ s) : findF L s = some L[k] := by
  unfold findF
  rw [List.find?_eq_some_iff_append]
  refine ⟨by simpa using hn, L.take k, L.drop (k + 1), ?_, ?_⟩
  · rw [← List.drop_eq_getElem_cons h, List.take_append_drop]
  · intro a ha
    obtain ⟨i, hi, rfl⟩ := List.getElem_of_mem ha
    have : i < k := by simp at hi; omega
    rw [List.getElem_take]
    simpa using hno i (by omega) this
theorem find_no {L : List Fil} {s : ByteArray} (hno : ∀ j (hj : j < L.length), L[j].name ≠ s) : findF L s = none := by
  unfold findF
  rw [List.find?_eq_none]
  intro a ha
  obtain ⟨i, hi, rfl⟩ := List.getElem_of_mem ha
  simpa using hno i hi
/-- What l03File answers. -/
def FoundAt (L : List Fil) (s : ByteArray) (r : Int) : Prop := (findF L s = none ∧ r = -1) ∨ ∃ (i : Nat) (h : i < L.length), r = i ∧ findF L s = some L[i] ∧ L[i].name = s

set_option maxHeartbeats 1000000 in
theorem l03File_any (A : Option Addr) (L : List Fil) (c : Nat) (s : ByteArray) (w : World) (hL : Fls w w.heap.size A L) :
    Calls Tryz.prog 134 #[.agg #[.slice A L.length c], .string s] w fun e w' => ∃ r, e = .returned (.int .i64 r) ∧ FoundAt L s r ∧ Below w.heap.size w w' := by
  have hn := hL.1
  unfold maxLen at hn
  have hB0 := Blk.fresh w 25 [.slice A L.length c]
  have hb0 : Below w.heap.size w (w.alloc (.cells #[.slice A L.length c] 25)) := (Below.refl _ _).alloc (Nat.le_refl _) _
  go_enter Tryz.func134, Tryz.ntmps134
  go_wp2
  go_loopw [5] (fun i wr => ∃ k : Nat, k ≤ L.length ∧ i = .int .i64 k ∧ (∀ j (h : j < L.length), j < k → L[j].name ≠ s) ∧ wr = w.alloc (.cells #[.slice A L.length c] 25)) (fun i _ => L.length - (intOf i).toNat)
  case atStart => exact ⟨0, by omega, rfl, fun j _ h => by omega, rfl⟩
  case round =>
    obtain ⟨k, hk, rfl, hno, rfl⟩ := hrel
    have b0 := hB0.cell (i := 0) rfl
    by_cases hlt : k < L.length
    · obtain ⟨a, rfl, hab, c0, c1, c2, hff⟩ := (hL.below hb0 (Nat.le_refl _)).at k hlt
      have hlt' : (k : Int) < (L.length : Int) := by omega
      by_cases hs : L[k].name = s
      · have hd : (L[k].name.toList == s.toList) = true := by rw [hs]; simp
        go_wp2
        all_goals first
          | (go_ret; exact ⟨k, rfl, .inr ⟨k, hlt, rfl, find_first hlt hs hno, hs⟩, hb0⟩)
          | (exfalso; simp_all)
      · have hd : (L[k].name.toList == s.toList) = false := by
          rw [beq_eq_false_iff_ne]; intro e; rw [Lib.toList_data, Lib.toList_data] at e; exact hs (bytes_inj e)
        go_wp2
        all_goals first
          | (refine ⟨⟨k + 1, by omega, by go_num, fun j hj hjk => ?_, by first | trivial | rfl⟩, by simp [intOf]; omega⟩
             by_cases e : j = k
             · subst e; exact hs
             · exact hno j hj (by omega))
          | (exfalso; simp_all)
    · obtain rfl : k = L.length := by omega
      go_wp2
      go_ret
      exact ⟨-1, rfl, .inl ⟨find_no fun j hj => hno j hj hj, rfl⟩, hb0⟩

set_option maxHeartbeats 1000000 in
theorem l03Begin_any (A : Option Addr) (L : List Fil) (c : Nat) (s : ByteArray) (w : World) (hL : Fls w w.heap.size A L) (hs : s.size ≤ maxLen) :
    Calls Tryz.prog 88 #[.agg #[.slice A L.length c], .string s] w fun e w' => ∃ k, e = .returned (.tuple #[.int .i64 k, .int .i64 (codeOf L s)]) ∧ (codeOf L s = 0 → ∃ (i : Nat) (h : i < L.length), k = i ∧ findF L s = some L[i] ∧ L[i].name = s) ∧ (codeOf L s = 6 → findF L s = none) ∧ Below w.heap.size w w' := by
  have hs' := hs
  unfold maxLen at hs'
  have hB0 := Blk.fresh w 25 [.slice A L.length c]
  have b0 := hB0.cell (i := 0) rfl
  have hb0 : Below w.heap.size w (w.alloc (.cells #[.slice A L.length c] 25)) := (Below.refl _ _).alloc (Nat.le_refl _) _
  have R := specRight_any A L c _ ((hL.below hb0 (Nat.le_refl _)).mono hb0.size)
  by_cases hlong : 20000 < s.size
  · have HC : Hid (codeOf L s = 2) := by unfold Hid codeOf; rw [if_pos hlong]
    go_enter Tryz.func88, Tryz.ntmps88
    go_wp2
    exact bodyPost_ret (v := .tuple #[.int .i64 (-1), .int .i64 2]) (by simp [results, Tryz.results88, go_sem]) rfl ⟨-1, by rw [HC.out], fun e => (by rw [HC.out] at e; cases e), fun e => (by rw [HC.out] at e; cases e), hb0⟩
  · rcases Bool.eq_false_or_eq_true (fsOK L) with hok | hok
    · rw [hok] at R
      rcases Bool.eq_false_or_eq_true (nameB s) with hN | hN
      · have NR : ∀ W, Calls Tryz.prog 90 #[.string s] W fun e w' => e = .returned (.bool true) ∧ W = w' := fun W => by have := specNameRight_any s W hs; rw [hN] at this; exact this
        go_enter Tryz.func88, Tryz.ntmps88
        go_wp2_with (fail)
        refine R.mono ?_
        rintro e w1 ⟨rfl, hb1⟩
        have hw1 := hb0.trans (hb1.mono hb0.size)
        have b1 := (hB0.below hb1 hB0.lt).cell (i := 0) rfl
        clear b0
        go_wp2_with (fail)
        refine (NR _).mono ?_
        rintro e w2 ⟨rfl, rfl⟩
        go_wp2_with (fail)
        refine (l03File_any A L c s _ ((hL.below hw1 (Nat.le_refl _)).mono hw1.size)).mono ?_
        rintro e w3 ⟨r, rfl, hr, hb3⟩
        have hw3 := hw1.trans (hb3.mono hw1.size)
        rcases hr with ⟨hno, rfl⟩ | ⟨i, hi, rfl, hf, hnm⟩
        · have HC : Hid (codeOf L s = 6) := by unfold Hid codeOf; rw [if_neg hlong, hok, hN, if_neg (by simp), if_pos hno]
          go_wp2
          exact bodyPost_ret (v := .tuple #[.int .i64 (-1), .int .i64 6]) (by simp [results, Tryz.results88, go_sem]) rfl ⟨-1, by rw [HC.out], fun e => (by rw [HC.out] at e; cases e), fun _ => hno, hw3⟩
        · have HC : Hid (codeOf L s = 0) := by unfold Hid codeOf; rw [if_neg hlong, hok, hN, if_neg (by simp), hf, if_neg (by simp)]
          have hi' : ¬ (i : Int) < 0 := by omega
          go_wp2
          exact bodyPost_ret (v := .tuple #[.int .i64 i, .int .i64 0]) (by simp [results, Tryz.results88, go_sem]) rfl ⟨i, by rw [HC.out], fun _ => ⟨i, hi, rfl, hf, hnm⟩, fun e => (by rw [HC.out] at e; cases e), hw3⟩
      · have NR : ∀ W, Calls Tryz.prog 90 #[.string s] W fun e w' => e = .returned (.bool false) ∧ W = w' := fun W => by have := specNameRight_any s W hs; rw [hN] at this; exact this
        have HC : Hid (codeOf L s = 1) := by unfold Hid codeOf; rw [if_neg hlong, hN, if_pos (by simp)]
        go_enter Tryz.func88, Tryz.ntmps88
        go_wp2_with (fail)
        refine R.mono ?_
        rintro e w1 ⟨rfl, hb1⟩
        have hw1 := hb0.trans (hb1.mono hb0.size)
        go_wp2_with (fail)
        refine (NR _).mono ?_
        rintro e w2 ⟨rfl, rfl⟩
        go_wp2
        exact bodyPost_ret (v := .tuple #[.int .i64 (-1), .int .i64 1]) (by simp [results, Tryz.results88, go_sem]) rfl ⟨-1, by rw [HC.out], fun e => (by rw [HC.out] at e; cases e), fun e => (by rw [HC.out] at e; cases e), hw1⟩
    · rw [hok] at R
      have HC : Hid (codeOf L s = 1) := by unfold Hid codeOf; rw [if_neg hlong, hok, if_pos (by simp)]
      go_enter Tryz.func88, Tryz.ntmps88
      go_wp2_with (fail)
      refine R.mono ?_
      rintro e w1 ⟨rfl, hb1⟩
      have hw1 := hb0.trans (hb1.mono hb0.size)
      go_wp2
      exact bodyPost_ret (v := .tuple #[.int .i64 (-1), .int .i64 1]) (by simp [results, Tryz.results88, go_sem]) rfl ⟨-1, by rw [HC.out], fun e => (by rw [HC.out] at e; cases e), fun e => (by rw [HC.out] at e; cases e), hw1⟩
end Go.Proofs.YtebkblmejkkhfaaGreatDoor

namespace Go.Proofs.YtebkblmejkkhfaaGreatDoor
open Go.RowKit
set_option linter.unusedVariables false
set_option maxRecDepth 1000000

theorem ownF_nil (w : World) (base : Nat) : OwnF w base (.slice none 0 0) [] := ⟨World.ownsRow_nil _ _ _ _, fun f h => by cases h⟩
set_option maxHeartbeats 1000000 in
theorem ill_any (cd : Int) (w : World) : Calls Tryz.prog 87 #[.int .i64 cd] w fun e w' => e = .returned (fsOut (.slice none 0 0) cd) ∧ Below w.heap.size w w' := by
  go_enter Tryz.func87, Tryz.ntmps87
  go_wp2
  exact bodyPost_ret (v := fsOut (.slice none 0 0) cd) (by simp [results, Tryz.results87, go_sem]) rfl ⟨rfl, (Below.refl _ _).alloc (Nat.le_refl _) _⟩
theorem any_one (s : ByteArray) : anyLong [s] = decide (20000 < s.size) := by simp [anyLong]
theorem open_one (L : List Fil) (s : ByteArray) : openOK L [s] = (fsOK L && nameB s) := by simp [openOK]
/-- What a change of one name meets. -/
theorem code_cases (L : List Fil) (s : ByteArray) :
    (anyLong [s] = true ∧ codeOf L s = 2) ∨ (anyLong [s] = false ∧ openOK L [s] = false ∧ codeOf L s = 1) ∨
    (anyLong [s] = false ∧ openOK L [s] = true ∧ fsOK L = true ∧ findF L s = none ∧ codeOf L s = 6) ∨
    (anyLong [s] = false ∧ openOK L [s] = true ∧ fsOK L = true ∧ (∃ (i : Nat) (h : i < L.length), findF L s = some L[i] ∧ L[i].name = s) ∧ codeOf L s = 0) := by
  rw [any_one, open_one]
  unfold codeOf
  by_cases h : 20000 < s.size
  · exact .inl ⟨by simpa using h, by rw [if_pos h]⟩
  · refine .inr ?_
    rw [if_neg h]
    cases hg : (fsOK L && nameB s) with
    | false => exact .inl ⟨by simpa using h, rfl, by simp⟩
    | true =>
      refine .inr ?_
      have hok : fsOK L = true := by simp only [Bool.and_eq_true] at hg; exact hg.1
      cases hf : findF L s with
      | none => exact .inl ⟨by simpa using h, rfl, hok, rfl, by simp⟩
      | some g =>
        obtain ⟨i, hi, hig⟩ := List.getElem_of_mem (List.mem_of_find?_eq_some hf)
        have hn : g.name = s := by simpa using List.find?_some hf
        exact .inr ⟨by simpa using h, rfl, hok, ⟨i, hi, by rw [hig], by rw [hig, hn]⟩, by simp⟩
end Go.Proofs.YtebkblmejkkhfaaGreatDoor

namespace Go.Proofs.YtebkblmejkkhfaaGreatDoor
open Go.RowKit
set_option linter.unusedVariables false
set_option maxRecDepth 1000000

/-- The world behind FsSync's boxes and its list of names. -/
def wFsSync (A : Option Addr) (L : List Fil) (c : Nat) (s : ByteArray) (w : World) : World := (((w.alloc (.cells #[.slice A L.length c] 25)).alloc (.cells #[.string s] 9)).alloc (.cells #[.slice none 0 0, .int .i64 0] 29)).alloc (.cells #[.string s] 9)
theorem wFsSync_size (A : Option Addr) (L : List Fil) (c : Nat) (s : ByteArray) (w : World) : (wFsSync A L c s w).heap.size = w.heap.size + 4 := by unfold wFsSync; simp
theorem wFsSync_below (A : Option Addr) (L : List Fil) (c : Nat) (s : ByteArray) (w : World) : Below w.heap.size w (wFsSync A L c s w) := by
  unfold wFsSync
  exact (((((Below.refl _ _).alloc (Nat.le_refl _) _).alloc (by simp only [World.size_alloc]; omega) _).alloc (by simp only [World.size_alloc]; omega) _).alloc (by simp only [World.size_alloc]; omega) _)
theorem wFsSync_names (A : Option Addr) (L : List Fil) (c : Nat) (s : ByteArray) (w : World) : StrA (wFsSync A L c s w) (some ⟨w.heap.size + 3, 0, none⟩) [s] := by
  have h := Blk.fresh (((w.alloc (.cells #[.slice A L.length c] 25)).alloc (.cells #[.string s] 9)).alloc (.cells #[.slice none 0 0, .int .i64 0] 29)) 9 [.string s]
  have hz : (((w.alloc (.cells #[.slice A L.length c] 25)).alloc (.cells #[.string s] 9)).alloc (.cells #[.slice none 0 0, .int .i64 0] 29)).heap.size = w.heap.size + 3 := by simp
  rw [hz] at h
  intro i hi
  refine ⟨_, rfl, ?_⟩
  rw [addr_add0]
  refine Blk.cell (t := 9) (cs := [.string s]) h ?_
  have hi' : i < 1 := hi
  match i, hi' with
  | 0, _ => rfl

theorem wFsSync_box0 (A : Option Addr) (L : List Fil) (c : Nat) (s : ByteArray) (w : World) : Blk (wFsSync A L c s w) (w.heap.size + 1) 9 [.string s] := by
  have h := Blk.fresh (w.alloc (.cells #[.slice A L.length c] 25)) 9 [.string s]
  have hz : (w.alloc (.cells #[.slice A L.length c] 25)).heap.size = w.heap.size + 1 := by simp
  rw [hz] at h
  unfold wFsSync
  exact (h.alloc _).alloc _
theorem wFsSync_res (A : Option Addr) (L : List Fil) (c : Nat) (s : ByteArray) (w : World) : Blk (wFsSync A L c s w) (w.heap.size + 2) 29 [.slice none 0 0, .int .i64 0] := by
  have h := Blk.fresh ((w.alloc (.cells #[.slice A L.length c] 25)).alloc (.cells #[.string s] 9)) 29 [.slice none 0 0, .int .i64 0]
  have hz : ((w.alloc (.cells #[.slice A L.length c] 25)).alloc (.cells #[.string s] 9)).heap.size = w.heap.size + 2 := by simp
  rw [hz] at h
  unfold wFsSync
  exact h.alloc _

set_option maxHeartbeats 4000000 in
theorem implFsSync_of (A : Option Addr) (L : List Fil) (c : Nat) (s : ByteArray) (w : World) (M : List Fil) (cd : Int)
    (H : Hid (Calls Tryz.prog 75 #[.agg #[.slice A L.length c], .func (.func 98) #[] #[.pointer (some ⟨w.heap.size + 1, 0, none⟩)], .slice (some ⟨w.heap.size + 3, 0, none⟩) 1 1] (wFsSync A L c s w) fun e w' => ∃ C x, e = .returned (fsOut (.slice C M.length x) cd) ∧ OwnF w' (wFsSync A L c s w).heap.size (.slice C M.length x) M ∧ Below (wFsSync A L c s w).heap.size (wFsSync A L c s w) w')) :
    Calls Tryz.prog 29 #[.agg #[.slice A L.length c], .string s] w fun e w' => ∃ C x, e = .returned (fsOut (.slice C M.length x) cd) ∧ OwnF w' w.heap.size (.slice C M.length x) M ∧ Below w.heap.size w w' := by
  have hsz := wFsSync_size A L c s w
  have hbw := wFsSync_below A L c s w
  have hT0 := wFsSync_res A L c s w
  go_enter Tryz.func29, Tryz.ntmps29
  go_wp2_with (fail)
  refine H.out.mono ?_
  rintro e w1 ⟨C, x, rfl, hO, hb1⟩
  have hT1 := hT0.below hb1 hT0.lt
  have hz1 := hb1.size
  have hw1 := hbw.trans (hb1.mono hbw.size)
  have t0 := hT1.cell (i := 0) rfl
  have t1 := hT1.cell (i := 1) rfl
  have f0 := hT1.froz 0
  have f1 := hT1.froz 1
  go_wp2
  have hp := (hT1.put 0 (.slice C M.length x)).put 1 (.int .i64 cd)
  have k0 := hp.cell (i := 0) rfl
  have k1 := hp.cell (i := 1) rfl
  have hO4 := (OwnF.far (OwnF.far hO (p := ⟨w.heap.size + 2, 0, none⟩) (by rw [hsz]; simp) (.slice C M.length x)) (p := ⟨w.heap.size + 2, 1, none⟩) (by rw [hsz]; simp) (.int .i64 cd))
  refine bodyPost_ret (v := fsOut (.slice C M.length x) cd) (by simp only [results, Tryz.results29]; simp [go_sem, k0, k1]) rfl ⟨C, x, rfl, OwnF.base hO4 (by omega), ?_⟩
  exact (hw1.setCell (by simp only []; omega) _).setCell (by simp only []; omega) _


theorem enters_sync : Enters 98 := enters_of Tryz.func98 (by kernel_rfl) rfl
set_option maxHeartbeats 1000000 in
theorem syncC_ok (p b n : Nat) (L : List Fil) (s : ByteArray) (f : Fil) (w : World) (hp : w.cell? ⟨p, 0, none⟩ = some (.string s)) (hM : MapF w b n L) (hn : n ≤ 1000) (hs : s.size ≤ maxLen) (hf : findF L s = some f) (hff : f.fits) (hfn : f.name = s) :
    Calls Tryz.prog 98 #[.map (some b), .pointer (some ⟨p, 0, none⟩)] w fun e w' => e = .returned .nilIface ∧ MapF w' b (n + 1) (putL L ⟨f.name, f.data, (f.data.size : Int)⟩) ∧ w.grownBy w' (some b) := by
  go_enter Tryz.func98, Tryz.ntmps98
  go_wp2_with (fail)
  refine (sync_some b n L s f w hM hn hs hf hff hfn).mono ?_
  rintro e w1 ⟨rfl, h1, h2⟩
  go_wp2
  go_ret
  exact ⟨rfl, h1, h2⟩
set_option maxHeartbeats 1000000 in
theorem syncC_none (p b n : Nat) (L : List Fil) (s : ByteArray) (a0 a1 a2 a3 a4 : Addr) (w : World) (hp : w.cell? ⟨p, 0, none⟩ = some (.string s)) (hM : MapF w b n L) (hs : s.size ≤ maxLen) (hE : Errs w a0 a1 a2 a3 a4) (hf : findF L s = none) :
    Calls Tryz.prog 98 #[.map (some b), .pointer (some ⟨p, 0, none⟩)] w fun e w' => e = .returned (errV a2) ∧ Below w.heap.size w w' := by
  go_enter Tryz.func98, Tryz.ntmps98
  go_wp2_with (fail)
  refine (sync_none b n L s a0 a1 a2 a3 a4 w hM hs hE hf).mono ?_
  rintro e w1 ⟨rfl, h1⟩
  go_wp2
  go_ret
  exact ⟨rfl, h1⟩

set_option maxHeartbeats 2000000 in
theorem specSync_err (A : Option Addr) (L : List Fil) (c : Nat) (s : ByteArray) (cd : Int) (w : World) (hL : Fls w w.heap.size A L) (hs : s.size ≤ maxLen) (hc : codeOf L s = cd) (h0 : cd ≠ 0) :
    Calls Tryz.prog 34 #[.agg #[.slice A L.length c], .string s] w fun e w' => ∃ C x, e = .returned (fsOut (.slice C ([] : List Fil).length x) cd) ∧ OwnF w' w.heap.size (.slice C ([] : List Fil).length x) [] ∧ Below w.heap.size w w' := by
  have hT0 := Blk.fresh (w.alloc (.cells #[.slice A L.length c] 25)) 29 [.slice none 0 0, .int .i64 0]
  simp only [World.size_alloc] at hT0
  have hb0 : Below w.heap.size w ((w.alloc (.cells #[.slice A L.length c] 25)).alloc (.cells #[.slice none 0 0, .int .i64 0] 29)) := ((Below.refl _ _).alloc (Nat.le_refl _) _).alloc (by simp) _
  have Be := l03Begin_any A L c s _ ((hL.below hb0 (Nat.le_refl _)).mono hb0.size) hs
  rw [hc] at Be
  have hcb : (cd != 0) = true := by simpa using h0
  go_enter Tryz.func34, Tryz.ntmps34
  go_wp2_with (fail)
  refine Be.mono ?_
  rintro e w1 ⟨k, rfl, _, _, hb1⟩
  have hw1 := hb0.trans (hb1.mono hb0.size)
  have hT1 := hT0.below hb1 hT0.lt
  go_wp2_with (fail)
  refine (ill_any cd _).mono ?_
  rintro e w2 ⟨rfl, hb2⟩
  have hw2 := hw1.trans (hb2.mono hw1.size)
  have hT2 := hT1.below hb2 hT1.lt
  have t0 := hT2.cell (i := 0) rfl
  have t1 := hT2.cell (i := 1) rfl
  have f0 := hT2.froz 0
  have f1 := hT2.froz 1
  go_wp2
  have hp := (hT2.put 0 (.slice none 0 0)).put 1 (.int .i64 cd)
  have k0 := hp.cell (i := 0) rfl
  have k1 := hp.cell (i := 1) rfl
  refine bodyPost_ret (v := fsOut (.slice none 0 0) cd) (by simp only [results, Tryz.results34]; simp [go_sem, k0, k1]) rfl ⟨none, 0, rfl, ownF_nil _ _, ?_⟩
  exact (hw2.setCell (by simp) _).setCell (by simp) _

set_option maxHeartbeats 4000000 in
theorem specSync_ok (A : Option Addr) (L : List Fil) (c : Nat) (s : ByteArray) (i : Nat) (hi : i < L.length) (w : World) (hL : Fls w w.heap.size A L) (hS : Small L) (hs : s.size ≤ maxLen) (hc : codeOf L s = 0) (hfi : findF L s = some L[i]) (hR : Rising L) :
    Calls Tryz.prog 34 #[.agg #[.slice A L.length c], .string s] w fun e w' => ∃ C x, e = .returned (fsOut (.slice C (L.set i ⟨L[i].name, L[i].data, (L[i].data.size : Int)⟩).length x) 0) ∧ OwnF w' w.heap.size (.slice C (L.set i ⟨L[i].name, L[i].data, (L[i].data.size : Int)⟩).length x) (L.set i ⟨L[i].name, L[i].data, (L[i].data.size : Int)⟩) ∧ Below w.heap.size w w' := by
  have hT0 := Blk.fresh (w.alloc (.cells #[.slice A L.length c] 25)) 29 [.slice none 0 0, .int .i64 0]
  have hA0 := (Blk.fresh w 25 [.slice A L.length c]).alloc (.cells #[.slice none 0 0, .int .i64 0] 29)
  simp only [World.size_alloc] at hT0
  have hb0 : Below w.heap.size w ((w.alloc (.cells #[.slice A L.length c] 25)).alloc (.cells #[.slice none 0 0, .int .i64 0] 29)) := ((Below.refl _ _).alloc (Nat.le_refl _) _).alloc (by simp) _
  have hz0 : ((w.alloc (.cells #[.slice A L.length c] 25)).alloc (.cells #[.slice none 0 0, .int .i64 0] 29)).heap.size = w.heap.size + 2 := by simp
  have Be := l03Begin_any A L c s _ ((hL.below hb0 (Nat.le_refl _)).mono hb0.size) hs
  rw [hc] at Be
  have hf : ∀ f ∈ L, f.fits := fun f h => by obtain ⟨i, hi, rfl⟩ := List.getElem_of_mem h; exact (hL.2 i hi).choose_spec.2.2.2.2.2
  go_enter Tryz.func34, Tryz.ntmps34
  go_wp2_with (fail)
  refine Be.mono ?_
  rintro e w1 ⟨k, rfl, hk, _, hb1⟩
  obtain ⟨i', hi', rfl, hf', hn'⟩ := hk (by first | rfl | trivial)
  obtain rfl : i' = i := by
    rw [hfi] at hf'
    rcases Nat.decEq i' i with h | h
    · exact absurd (congrArg Fil.name (Option.some.inj hf')).symm (name_ne hR hi' hi h)
    · exact h
  have hw1 := hb0.trans (hb1.mono hb0.size)
  have hT1 := hT0.below hb1 hT0.lt
  have hA1 := hA0.below hb1 hA0.lt
  have b1 := hA1.cell (i := 0) rfl
  go_wp2_with (fail)
  refine (l03Copy_any A L c _ ((hL.below hw1 (Nat.le_refl _)).mono hw1.size) hS).mono ?_
  rintro e w2 ⟨C, x, rfl, hO, hb2⟩
  clear b1
  have hz1 := hw1.size
  have hz2 := hb2.size
  have hw2 := hw1.trans (hb2.mono hw1.size)
  have hT2 := hT1.below hb2 hT1.lt
  have hA2 := hA1.below hb2 hA1.lt
  have hAl := hA1.lt
  have hTl := hT1.lt
  obtain ⟨g, cp, hCv, hgj, hgl⟩ := hO.1.form (by omega)
  cases hCv
  have hX3 := Blk.fresh w2 25 [.slice (some ⟨g, 0, none⟩) L.length x]
  have hb3 : Below w2.heap.size w2 (w2.alloc (.cells #[.slice (some ⟨g, 0, none⟩) L.length x] 25)) := (Below.refl _ _).alloc (Nat.le_refl _) _
  have hw3 := hw2.trans (hb3.mono hw2.size)
  have hT3 := hT2.below hb3 hT2.lt
  have hA3 := hA2.below hb3 hA2.lt
  have hO3 := OwnF.below hO hb3 (Nat.le_refl _)
  obtain ⟨a, rfl, hab, c0, c1, c2, hff⟩ := (hL.below hw3 (Nat.le_refl _)).at i' hi'
  obtain ⟨FL, HFL⟩ : ∃ FL, Hid (flat L = FL) := ⟨_, Lib.hid rfl⟩
  have hRd : (w2.alloc (.cells #[.slice (some ⟨g, 0, none⟩) L.length x] 25)).drew.ownsRow (w1.heap.size + 2) 53 3 (.slice (some ⟨g, 0, none⟩) L.length x) L.length FL := by rw [← HFL.out]; exact hO3.1
  have hXd := hX3.drew
  have hAd := hA3.drew
  have hTd := hT3.drew
  have hwd := below_drew hw3
  have c1d : (w2.alloc (.cells #[.slice (some ⟨g, 0, none⟩) L.length x] 25)).drew.cell? ⟨(a.add (i' * 3)).block, (a.add (i' * 3)).off + 1, none⟩ = some (.string L[i'].data) := c1
  have hbo : w1.heap.size + 2 ≤ g := hgj
  have hi3 : (i' : Int) < (L.length : Int) := by omega
  go_wp2_with (fail)
  generalize hW : (w2.alloc (.cells #[.slice (some ⟨g, 0, none⟩) L.length x] 25)) = w4 at hXd hAd hTd hwd c1d hRd ⊢
  generalize hbo2 : w2.heap.size = bo at hXd ⊢
  obtain ⟨u1, r1⟩ := row_cell hRd (j := i' * 3 + 2) (by omega)
  have s1 := hRd.frozenAt (i' * 3 + 2)
  have hx0 := hXd.cell (i := 0) rfl
  have ha0 := hAd.cell (i := 0) rfl
  clear hW hb3 hw3 hT3 hA3 hO3 hX3 hT2 hA2 hw2 hT1 hA1 hw1 hb1 hb2 hO c0 c1 c2 hb0 hT0 hA0
  go_region
  have hR6 : (w4.setCell ⟨g, i' * 3 + 2, none⟩ (.int .i64 (L[i'].data.size : Int))).drew.ownsRow (w1.heap.size + 2) 53 3 (.slice (some ⟨g, 0, none⟩) L.length x) L.length (FL.set (i' * 3 + 2) (.int .i64 (L[i'].data.size : Int))) := (hRd.stored (i' * 3 + 2) (.int .i64 (L[i'].data.size : Int))).1
  have hX6 : Blk (w4.setCell ⟨g, i' * 3 + 2, none⟩ (.int .i64 (L[i'].data.size : Int))).drew bo 25 [.slice (some ⟨g, 0, none⟩) L.length x] := hXd.far (p := ⟨g, i' * 3 + 2, none⟩) (by simp; omega) _
  have hT6 : Blk (w4.setCell ⟨g, i' * 3 + 2, none⟩ (.int .i64 (L[i'].data.size : Int))).drew (w.heap.size + 1) 29 [.slice none 0 0, .int .i64 0] := hTd.far (p := ⟨g, i' * 3 + 2, none⟩) (by simp; omega) _
  have hw6 : Below w.heap.size w (w4.setCell ⟨g, i' * 3 + 2, none⟩ (.int .i64 (L[i'].data.size : Int))).drew := hwd.setCell (p := ⟨g, i' * 3 + 2, none⟩) (by simp; omega) _
  generalize (w4.setCell ⟨g, i' * 3 + 2, none⟩ (.int .i64 (L[i'].data.size : Int))).drew = w6 at hR6 hX6 hT6 hw6 ⊢
  clear hRd hXd hTd hwd hAd r1 s1 hx0 ha0 c1d
  rw [← HFL.out, flat_sync hi'] at hR6
  have hx0 := hX6.cell (i := 0) rfl
  have t0 := hT6.cell (i := 0) rfl
  have t1 := hT6.cell (i := 1) rfl
  have f0 := hT6.froz 0
  have f1 := hT6.froz 1
  go_wp2
  have hp := (hT6.put 0 (.slice (some ⟨g, 0, none⟩) L.length x)).put 1 (.int .i64 0)
  have k0 := hp.cell (i := 0) rfl
  have k1 := hp.cell (i := 1) rfl
  have hO6 : OwnF w6 (w1.heap.size + 2) (.slice (some ⟨g, 0, none⟩) (L.set i' ⟨L[i'].name, L[i'].data, (L[i'].data.size : Int)⟩).length x) (L.set i' ⟨L[i'].name, L[i'].data, (L[i'].data.size : Int)⟩) := by
    refine ⟨?_, fun f h => ?_⟩
    · rw [List.length_set]; exact hR6
    · rcases List.mem_or_eq_of_mem_set h with h | h
      · exact hf f h
      · subst h; exact ⟨hff.1, hff.2.1, by simp only []; omega, by have := hff.2.1; unfold maxLen at this; simp only []; omega⟩
  have hO7 := OwnF.far (OwnF.far hO6 (p := ⟨w.heap.size + 1, 0, none⟩) (by simp only []; omega) (.slice (some ⟨g, 0, none⟩) L.length x)) (p := ⟨w.heap.size + 1, 1, none⟩) (by simp only []; omega) (.int .i64 0)
  refine bodyPost_ret (v := fsOut (.slice (some ⟨g, 0, none⟩) L.length x) 0) (by simp only [results, Tryz.results34]; simp [go_sem, k0, k1]) rfl ⟨some ⟨g, 0, none⟩, x, by rw [List.length_set], OwnF.base hO7 (by omega), ?_⟩
  exact (hw6.setCell (by simp) _).setCell (by simp) _

/-- FsSync: spec and impl answer alike. -/
theorem fsSync_both (L : List Fil) (s : ByteArray) (a0 a1 a2 a3 a4 : Addr) (hf : ∀ f ∈ L, f.fits) (hS : Small L) (hs : s.size ≤ maxLen) (hs2 : s.size ≤ 1048576) :
    ∃ (M : List Fil) (cd : Int), (∀ f ∈ M, f.fits) ∧ M.length ≤ L.length + 1 ∧ Small M ∧
      (∀ W A c, Fls W W.heap.size A L → Calls Tryz.prog 34 #[.agg #[.slice A L.length c], .string s] W fun e w' => ∃ C x, e = .returned (fsOut (.slice C M.length x) cd) ∧ OwnF w' W.heap.size (.slice C M.length x) M ∧ Below W.heap.size W w') ∧
      (∀ W A c, Fls W W.heap.size A L → Errs W a0 a1 a2 a3 a4 → Calls Tryz.prog 29 #[.agg #[.slice A L.length c], .string s] W fun e w' => ∃ C x, e = .returned (fsOut (.slice C M.length x) cd) ∧ OwnF w' W.heap.size (.slice C M.length x) M ∧ Below W.heap.size W w') := by
  have hsN : ∀ x ∈ [s], x.size ≤ maxLen := by intro x hx; simp at hx; subst hx; exact hs
  have nil : ∀ {f : FuncId} {args : Array Value} {W : World} {cd : Int}, (Calls Tryz.prog f args W fun e w' => e = .returned (fsOut (.slice none 0 0) cd) ∧ Below W.heap.size W w') → Calls Tryz.prog f args W fun e w' => ∃ C x, e = .returned (fsOut (.slice C ([] : List Fil).length x) cd) ∧ OwnF w' W.heap.size (.slice C ([] : List Fil).length x) [] ∧ Below W.heap.size W w' :=
    fun h => h.mono fun e w' ⟨he, hb⟩ => ⟨none, 0, he, ownF_nil _ _, hb⟩
  rcases code_cases L s with ⟨h1, hc⟩ | ⟨h1, h2, hc⟩ | ⟨h1, h2, h3, h4, hc⟩ | ⟨h1, h2, h3, ⟨i, hi, h4, h5⟩, hc⟩
  · refine ⟨[], 2, by simp, by simp, small_nil, fun W A c hL => specSync_err A L c s 2 W hL hs hc (by decide), fun W A c hL hE => implFsSync_of A L c s W [] 2 (Lib.hid (nil ?_))⟩
    have hb := wFsSync_below A L c s W
    exact change_long A L c _ [s] 1 _ a0 a1 a2 a3 a4 _ (hE.below hb) (wFsSync_names A L c s W) (by simp) hsN h1
  · refine ⟨[], 1, by simp, by simp, small_nil, fun W A c hL => specSync_err A L c s 1 W hL hs hc (by decide), fun W A c hL hE => implFsSync_of A L c s W [] 1 (Lib.hid (nil ?_))⟩
    have hb := wFsSync_below A L c s W
    exact change_bad A L c _ [s] 1 _ a0 a1 a2 a3 a4 _ (hE.below hb) ((hL.below hb (Nat.le_refl _)).mono hb.size) (wFsSync_names A L c s W) (by simp) hsN h1 h2
  · refine ⟨[], 6, by simp, by simp, small_nil, fun W A c hL => specSync_err A L c s 6 W hL hs hc (by decide), fun W A c hL hE => implFsSync_of A L c s W [] 6 (Lib.hid (nil ?_))⟩
    have hb := wFsSync_below A L c s W
    exact change_err A L c _ [s] 1 98 _ 2 a2 a0 a1 a2 a3 a4 _ (hE.below hb) ((hL.below hb (Nat.le_refl _)).mono hb.size) (wFsSync_names A L c s W) (by simp) hsN h1 h2 enters_sync rfl
      (Lib.hid fun W2 b n hW2 _ hM _ => syncC_none _ b n L s a0 a1 a2 a3 a4 W2 (((wFsSync_box0 A L c s W).below hW2 (wFsSync_box0 A L c s W).lt).cell (i := 0) rfl) hM hs ((hE.below hb).below hW2) h4)
  · have hR := rising_of_ok h3
    have hfi := hf _ (List.getElem_mem hi)
    have hfx : ∀ f ∈ L.set i ⟨L[i].name, L[i].data, (L[i].data.size : Int)⟩, f.fits := fun f h => by
      rcases List.mem_or_eq_of_mem_set h with h | h
      · exact hf f h
      · subst h; exact ⟨hfi.1, hfi.2.1, by simp only []; omega, by have := hfi.2.1; unfold maxLen at this; simp only []; omega⟩
    have hSx : Small (L.set i ⟨L[i].name, L[i].data, (L[i].data.size : Int)⟩) := by
      refine small_of (L := L) (by rw [List.length_set]; exact hS.1) fun g hg => ?_
      rcases List.mem_or_eq_of_mem_set hg with h | h
      · exact small_mem hS h
      · subst h; exact hS.2 i hi
    refine ⟨L.set i ⟨L[i].name, L[i].data, (L[i].data.size : Int)⟩, 0, hfx, by rw [List.length_set]; omega, hSx, fun W A c hL => specSync_ok A L c s i hi W hL hS hs hc h4 hR, fun W A c hL hE => implFsSync_of A L c s W _ 0 (Lib.hid ?_)⟩
    have hb := wFsSync_below A L c s W
    refine change_ok A L c _ [s] 1 98 _ _ _ ((hL.below hb (Nat.le_refl _)).mono hb.size) (wFsSync_names A L c s W) (by simp) hsN h1 h2 enters_sync (rising_set hR hi rfl) hfx hSx
      (Lib.hid fun W2 b n hW2 _ hM hn => (syncC_ok _ b n L s L[i] W2 (((wFsSync_box0 A L c s W).below hW2 (wFsSync_box0 A L c s W).lt).cell (i := 0) rfl) hM (by omega) hs h4 hfi h5).mono fun e w' ⟨he, hm, hg⟩ => ⟨he, ⟨n + 1, by omega, ?_⟩, hg⟩)
    have := put_at hR hi (f := ⟨L[i].name, L[i].data, (L[i].data.size : Int)⟩) rfl
    rw [this] at hm
    exact hm
end Go.Proofs.YtebkblmejkkhfaaGreatDoor
