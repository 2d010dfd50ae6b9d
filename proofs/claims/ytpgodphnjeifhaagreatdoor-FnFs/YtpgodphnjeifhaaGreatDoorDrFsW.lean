/- FsAppend: spec and impl answer alike. spec.l03Put into nil; FsAppend of the empty file system. The draws of files: pick, l03Name. -/
import Derived.Test.YtpgodphnjeifhaaGreatDoorFApW
import Derived.Test.YtpgodphnjeifhaaGreatDoorFsHowW
import Derived.Laws.AppendOwnNone
import Derived.Test.YtpgodphnjeifhaaGreatDoorPickW
namespace Go.Proofs.YtpgodphnjeifhaaGreatDoor
open Go.RowKit
set_option linter.unusedVariables false
set_option maxRecDepth 1000000

/-- The world behind FsAppend's boxes and its list of names. -/
def wFsAppend (A : Option Addr) (L : List Fil) (c : Nat) (s : ByteArray) (t : ByteArray) (w : World) : World := ((((w.alloc (.cells #[.slice A L.length c] 25)).alloc (.cells #[.string s] 9)).alloc (.cells #[.string t] 9)).alloc (.cells #[.slice none 0 0, .int .i64 0] 29)).alloc (.cells #[.string s] 9)
theorem wFsAppend_size (A : Option Addr) (L : List Fil) (c : Nat) (s : ByteArray) (t : ByteArray) (w : World) : (wFsAppend A L c s t w).heap.size = w.heap.size + 5 := by unfold wFsAppend; simp
theorem wFsAppend_below (A : Option Addr) (L : List Fil) (c : Nat) (s : ByteArray) (t : ByteArray) (w : World) : Below w.heap.size w (wFsAppend A L c s t w) := by
  unfold wFsAppend
  exact ((((((Below.refl _ _).alloc (Nat.le_refl _) _).alloc (by simp only [World.size_alloc]; omega) _).alloc (by simp only [World.size_alloc]; omega) _).alloc (by simp only [World.size_alloc]; omega) _).alloc (by simp only [World.size_alloc]; omega) _)
theorem wFsAppend_names (A : Option Addr) (L : List Fil) (c : Nat) (s : ByteArray) (t : ByteArray) (w : World) : StrA (wFsAppend A L c s t w) (some ⟨w.heap.size + 4, 0, none⟩) [s] := by
  have h := Blk.fresh ((((w.alloc (.cells #[.slice A L.length c] 25)).alloc (.cells #[.string s] 9)).alloc (.cells #[.string t] 9)).alloc (.cells #[.slice none 0 0, .int .i64 0] 29)) 9 [.string s]
  have hz : ((((w.alloc (.cells #[.slice A L.length c] 25)).alloc (.cells #[.string s] 9)).alloc (.cells #[.string t] 9)).alloc (.cells #[.slice none 0 0, .int .i64 0] 29)).heap.size = w.heap.size + 4 := by simp
  rw [hz] at h
  intro i hi
  refine ⟨_, rfl, ?_⟩
  rw [addr_add0]
  refine Blk.cell (t := 9) (cs := [.string s]) h ?_
  have hi' : i < 1 := hi
  match i, hi' with
  | 0, _ => rfl

theorem wFsAppend_box0 (A : Option Addr) (L : List Fil) (c : Nat) (s : ByteArray) (t : ByteArray) (w : World) : Blk (wFsAppend A L c s t w) (w.heap.size + 1) 9 [.string s] := by
  have h := Blk.fresh (w.alloc (.cells #[.slice A L.length c] 25)) 9 [.string s]
  have hz : (w.alloc (.cells #[.slice A L.length c] 25)).heap.size = w.heap.size + 1 := by simp
  rw [hz] at h
  unfold wFsAppend
  exact ((h.alloc _).alloc _).alloc _
theorem wFsAppend_box1 (A : Option Addr) (L : List Fil) (c : Nat) (s : ByteArray) (t : ByteArray) (w : World) : Blk (wFsAppend A L c s t w) (w.heap.size + 2) 9 [.string t] := by
  have h := Blk.fresh ((w.alloc (.cells #[.slice A L.length c] 25)).alloc (.cells #[.string s] 9)) 9 [.string t]
  have hz : ((w.alloc (.cells #[.slice A L.length c] 25)).alloc (.cells #[.string s] 9)).heap.size = w.heap.size + 2 := by simp
  rw [hz] at h
  unfold wFsAppend
  exact (h.alloc _).alloc _
theorem wFsAppend_res (A : Option Addr) (L : List Fil) (c : Nat) (s : ByteArray) (t : ByteArray) (w : World) : Blk (wFsAppend A L c s t w) (w.heap.size + 3) 29 [.slice none 0 0, .int .i64 0] := by
  have h := Blk.fresh (((w.alloc (.cells #[.slice A L.length c] 25)).alloc (.cells #[.string s] 9)).alloc (.cells #[.string t] 9)) 29 [.slice none 0 0, .int .i64 0]
  have hz : (((w.alloc (.cells #[.slice A L.length c] 25)).alloc (.cells #[.string s] 9)).alloc (.cells #[.string t] 9)).heap.size = w.heap.size + 3 := by simp
  rw [hz] at h
  unfold wFsAppend
  exact h.alloc _

set_option maxHeartbeats 4000000 in
theorem implFsAppend_of (A : Option Addr) (L : List Fil) (c : Nat) (s : ByteArray) (t : ByteArray) (w : World) (M : List Fil) (cd : Int) (ht : t.size ≤ maxLen) (hl : ¬ 20000 < t.size)
    (H : Hid (Calls Tryz.prog 39 #[.agg #[.slice A L.length c], .func (.func 40) #[] #[.pointer (some ⟨w.heap.size + 1, 0, none⟩), .pointer (some ⟨w.heap.size + 2, 0, none⟩)], .slice (some ⟨w.heap.size + 4, 0, none⟩) 1 1] (wFsAppend A L c s t w) fun e w' => ∃ C x, e = .returned (fsOut (.slice C M.length x) cd) ∧ OwnF w' (wFsAppend A L c s t w).heap.size (.slice C M.length x) M ∧ Below (wFsAppend A L c s t w).heap.size (wFsAppend A L c s t w) w')) :
    Calls Tryz.prog 6 #[.agg #[.slice A L.length c], .string s, .string t] w fun e w' => ∃ C x, e = .returned (fsOut (.slice C M.length x) cd) ∧ OwnF w' w.heap.size (.slice C M.length x) M ∧ Below w.heap.size w w' := by
  have hsz := wFsAppend_size A L c s t w
  have hbw := wFsAppend_below A L c s t w
  have hT0 := wFsAppend_res A L c s t w
  have TL : ∀ W, Calls Tryz.prog 38 #[.string t] W fun e w' => e = .returned (.bool false) ∧ w' = W := fun W => by
    have := tooLong_any t W ht
    rw [show decide (20000 < t.size) = false by simpa using hl] at this
    exact this
  go_enter Tryz.func6, Tryz.ntmps6
  go_wp2_with (fail)
  refine (TL _).mono ?_
  rintro e wt ⟨rfl, rfl⟩
  go_wp2_with (fail)
  refine H.out.mono ?_
  rintro e w1 ⟨C, x, rfl, hO, hb1⟩
  have hT1 := hT0.below hb1 hT0.lt
  have hz1 := hb1.size
  have hw1 := hbw.trans (hb1.mono hbw.size)
  have t0 := hT1.cell (i := 0) rfl
  have t1 := hT1.cell (i := 1) rfl
  have f0 := hT1.froz 0
  have f1 := hT1.froz 1
  go_wp2
  have hp := (hT1.put 0 (.slice C M.length x)).put 1 (.int .i64 cd)
  have k0 := hp.cell (i := 0) rfl
  have k1 := hp.cell (i := 1) rfl
  have hO4 := (OwnF.far (OwnF.far hO (p := ⟨w.heap.size + 3, 0, none⟩) (by rw [hsz]; simp) (.slice C M.length x)) (p := ⟨w.heap.size + 3, 1, none⟩) (by rw [hsz]; simp) (.int .i64 cd))
  refine bodyPost_ret (v := fsOut (.slice C M.length x) cd) (by simp only [results, Tryz.results6]; simp [go_sem, k0, k1]) rfl ⟨C, x, rfl, OwnF.base hO4 (by omega), ?_⟩
  exact (hw1.setCell (by simp only []; omega) _).setCell (by simp only []; omega) _

theorem enters_append : Enters 40 := enters_of Tryz.func40 (by kernel_rfl) rfl
set_option maxHeartbeats 1000000 in
theorem appendC_ok (p q b m : Nat) (M : List Fil) (s t : ByteArray) (w : World) (hp : w.cell? ⟨p, 0, none⟩ = some (.string s)) (hq : w.cell? ⟨q, 0, none⟩ = some (.string t))
    (H : Hid (Calls Tryz.prog 41 #[.map (some b), .string s, .string t] w fun e w' => e = .returned .nilIface ∧ MapF w' b m M ∧ w.grownBy w' (some b))) :
    Calls Tryz.prog 40 #[.map (some b), .pointer (some ⟨p, 0, none⟩), .pointer (some ⟨q, 0, none⟩)] w fun e w' => e = .returned .nilIface ∧ MapF w' b m M ∧ w.grownBy w' (some b) := by
  go_enter Tryz.func40, Tryz.ntmps40
  go_wp2_with (fail)
  refine H.out.mono ?_
  rintro e w1 ⟨rfl, h1, h2⟩
  go_wp2
  go_ret
  exact ⟨rfl, h1, h2⟩
set_option maxHeartbeats 1000000 in
theorem appendC_err (p q b : Nat) (ai : Addr) (s t : ByteArray) (w : World) (hp : w.cell? ⟨p, 0, none⟩ = some (.string s)) (hq : w.cell? ⟨q, 0, none⟩ = some (.string t))
    (H : Hid (Calls Tryz.prog 41 #[.map (some b), .string s, .string t] w fun e w' => e = .returned (errV ai) ∧ Below w.heap.size w w')) :
    Calls Tryz.prog 40 #[.map (some b), .pointer (some ⟨p, 0, none⟩), .pointer (some ⟨q, 0, none⟩)] w fun e w' => e = .returned (errV ai) ∧ Below w.heap.size w w' := by
  go_enter Tryz.func40, Tryz.ntmps40
  go_wp2_with (fail)
  refine H.out.mono ?_
  rintro e w1 ⟨rfl, h1⟩
  go_wp2
  go_ret
  exact ⟨rfl, h1⟩
set_option maxHeartbeats 2000000 in
theorem implAppend_long (A : Option Addr) (L : List Fil) (c : Nat) (s t : ByteArray) (w : World) (ht : t.size ≤ maxLen) (hl : 20000 < t.size) :
    Calls Tryz.prog 6 #[.agg #[.slice A L.length c], .string s, .string t] w fun e w' => ∃ C x, e = .returned (fsOut (.slice C ([] : List Fil).length x) 2) ∧ OwnF w' w.heap.size (.slice C ([] : List Fil).length x) [] ∧ Below w.heap.size w w' := by
  have TL : ∀ W, Calls Tryz.prog 38 #[.string t] W fun e w' => e = .returned (.bool true) ∧ w' = W := fun W => by
    have := tooLong_any t W ht
    rw [show decide (20000 < t.size) = true by simpa using hl] at this
    exact this
  go_enter Tryz.func6, Tryz.ntmps6
  go_wp2_with (fail)
  refine (TL _).mono ?_
  rintro e wt ⟨rfl, rfl⟩
  go_wp2
  refine bodyPost_ret (v := fsOut (.slice none 0 0) 2) (by simp [results, Tryz.results6, go_sem]) rfl ⟨none, 0, rfl, ownF_nil _ _, ?_⟩
  exact ((((Below.refl _ _).alloc (Nat.le_refl _) _).alloc (by simp) _).alloc (by simp only [World.size_alloc]; omega) _).alloc (by simp only [World.size_alloc]; omega) _

set_option maxHeartbeats 2000000 in
theorem specAppend_long (A : Option Addr) (L : List Fil) (c : Nat) (s t : ByteArray) (w : World) (hs : s.size ≤ maxLen) (ht : t.size ≤ maxLen) (hl : 20000 < t.size) :
    Calls Tryz.prog 13 #[.agg #[.slice A L.length c], .string s, .string t] w fun e w' => ∃ C x, e = .returned (fsOut (.slice C ([] : List Fil).length x) 2) ∧ OwnF w' w.heap.size (.slice C ([] : List Fil).length x) ([] : List Fil) ∧ Below w.heap.size w w' := by
  have hT0 := Blk.fresh (w.alloc (.cells #[.slice A L.length c] 25)) 29 [.slice none 0 0, .int .i64 0]
  have hA0 := (Blk.fresh w 25 [.slice A L.length c]).alloc (.cells #[.slice none 0 0, .int .i64 0] 29)
  simp only [World.size_alloc] at hT0
  have hb0 : Below w.heap.size w ((w.alloc (.cells #[.slice A L.length c] 25)).alloc (.cells #[.slice none 0 0, .int .i64 0] 29)) := ((Below.refl _ _).alloc (Nat.le_refl _) _).alloc (by simp) _
  have hz0 : ((w.alloc (.cells #[.slice A L.length c] 25)).alloc (.cells #[.slice none 0 0, .int .i64 0] 29)).heap.size = w.heap.size + 2 := by simp
  have htm := ht
  unfold maxLen at htm
  have hl' : (20000 : Int) < (t.size : Int) := by omega
  go_enter Tryz.func13, Tryz.ntmps13
  go_wp2_with (fail)
  refine (ill_any 2 _).mono ?_
  rintro e w9 ⟨rfl, hb9⟩
  have hw9 := hb0.trans (hb9.mono hb0.size)
  have hT9 := hT0.below hb9 hT0.lt
  have t0 := hT9.cell (i := 0) rfl
  have t1 := hT9.cell (i := 1) rfl
  have f0 := hT9.froz 0
  have f1 := hT9.froz 1
  go_wp2
  have hp := (hT9.put 0 (.slice none 0 0)).put 1 (.int .i64 2)
  have k0 := hp.cell (i := 0) rfl
  have k1 := hp.cell (i := 1) rfl
  refine bodyPost_ret (v := fsOut (.slice none 0 0) 2) (by simp only [results, Tryz.results13]; simp [go_sem, k0, k1]) rfl ⟨none, 0, rfl, ownF_nil _ _, ?_⟩
  exact (hw9.setCell (by simp) _).setCell (by simp) _

set_option maxHeartbeats 4000000 in
theorem specAppend_err (A : Option Addr) (L : List Fil) (c : Nat) (s t : ByteArray) (cd : Int) (w : World) (hL : Fls w w.heap.size A L) (hs : s.size ≤ maxLen) (ht : t.size ≤ maxLen) (hl : ¬ 20000 < t.size) (hc : codeOf L s = cd) (h0 : cd ≠ 0) (h6 : cd ≠ 6) :
    Calls Tryz.prog 13 #[.agg #[.slice A L.length c], .string s, .string t] w fun e w' => ∃ C x, e = .returned (fsOut (.slice C ([] : List Fil).length x) cd) ∧ OwnF w' w.heap.size (.slice C ([] : List Fil).length x) ([] : List Fil) ∧ Below w.heap.size w w' := by
  have hT0 := Blk.fresh (w.alloc (.cells #[.slice A L.length c] 25)) 29 [.slice none 0 0, .int .i64 0]
  have hA0 := (Blk.fresh w 25 [.slice A L.length c]).alloc (.cells #[.slice none 0 0, .int .i64 0] 29)
  simp only [World.size_alloc] at hT0
  have hb0 : Below w.heap.size w ((w.alloc (.cells #[.slice A L.length c] 25)).alloc (.cells #[.slice none 0 0, .int .i64 0] 29)) := ((Below.refl _ _).alloc (Nat.le_refl _) _).alloc (by simp) _
  have hz0 : ((w.alloc (.cells #[.slice A L.length c] 25)).alloc (.cells #[.slice none 0 0, .int .i64 0] 29)).heap.size = w.heap.size + 2 := by simp
  have htm := ht
  unfold maxLen at htm
  have hl' : ¬ (20000 : Int) < (t.size : Int) := by omega
  have Be := l03Begin_any A L c s _ ((hL.below hb0 (Nat.le_refl _)).mono hb0.size) hs
  rw [hc] at Be
  have e0 : (cd == 0) = false := by simpa using h0
  have e6 : (cd != 6) = true := by simpa using h6
  go_enter Tryz.func13, Tryz.ntmps13
  go_wp2_with (fail)
  refine Be.mono ?_
  rintro e w1 ⟨k, rfl, _, _, hb1⟩
  have hw1 := hb0.trans (hb1.mono hb0.size)
  have hT1 := hT0.below hb1 hT0.lt
  have hA1 := hA0.below hb1 hA0.lt
  have hw2 := hw1.alloc hw1.size (.cells #[.string s, .string ⟨#[]⟩, .int .i64 0] 53)
  have hT2 := hT1.alloc (.cells #[.string s, .string ⟨#[]⟩, .int .i64 0] 53)
  have hA2 := hA1.alloc (.cells #[.string s, .string ⟨#[]⟩, .int .i64 0] 53)
  have a2 := hA2.cell (i := 0) rfl
  go_wp2_with (fail)
  refine (ill_any cd _).mono ?_
  rintro e w9 ⟨rfl, hb9⟩
  have hw9 := hw2.trans (hb9.mono hw2.size)
  have hT9 := hT2.below hb9 hT2.lt
  have t0 := hT9.cell (i := 0) rfl
  have t1 := hT9.cell (i := 1) rfl
  have f0 := hT9.froz 0
  have f1 := hT9.froz 1
  go_wp2
  have hp := (hT9.put 0 (.slice none 0 0)).put 1 (.int .i64 cd)
  have k0 := hp.cell (i := 0) rfl
  have k1 := hp.cell (i := 1) rfl
  refine bodyPost_ret (v := fsOut (.slice none 0 0) cd) (by simp only [results, Tryz.results13]; simp [go_sem, k0, k1]) rfl ⟨none, 0, rfl, ownF_nil _ _, ?_⟩
  exact (hw9.setCell (by simp) _).setCell (by simp) _

set_option maxHeartbeats 4000000 in
theorem specAppend_many (A : Option Addr) (L : List Fil) (c : Nat) (s t : ByteArray) (w : World) (hL : Fls w w.heap.size A L) (hs : s.size ≤ maxLen) (ht : t.size ≤ maxLen) (hl : ¬ 20000 < t.size) (hc : codeOf L s = 6) (hm : 12 ≤ L.length) :
    Calls Tryz.prog 13 #[.agg #[.slice A L.length c], .string s, .string t] w fun e w' => ∃ C x, e = .returned (fsOut (.slice C ([] : List Fil).length x) 9) ∧ OwnF w' w.heap.size (.slice C ([] : List Fil).length x) ([] : List Fil) ∧ Below w.heap.size w w' := by
  have hT0 := Blk.fresh (w.alloc (.cells #[.slice A L.length c] 25)) 29 [.slice none 0 0, .int .i64 0]
  have hA0 := (Blk.fresh w 25 [.slice A L.length c]).alloc (.cells #[.slice none 0 0, .int .i64 0] 29)
  simp only [World.size_alloc] at hT0
  have hb0 : Below w.heap.size w ((w.alloc (.cells #[.slice A L.length c] 25)).alloc (.cells #[.slice none 0 0, .int .i64 0] 29)) := ((Below.refl _ _).alloc (Nat.le_refl _) _).alloc (by simp) _
  have hz0 : ((w.alloc (.cells #[.slice A L.length c] 25)).alloc (.cells #[.slice none 0 0, .int .i64 0] 29)).heap.size = w.heap.size + 2 := by simp
  have htm := ht
  unfold maxLen at htm
  have hl' : ¬ (20000 : Int) < (t.size : Int) := by omega
  have Be := l03Begin_any A L c s _ ((hL.below hb0 (Nat.le_refl _)).mono hb0.size) hs
  rw [hc] at Be
  have hm' : (12 : Int) ≤ (L.length : Int) := by omega
  go_enter Tryz.func13, Tryz.ntmps13
  go_wp2_with (fail)
  refine Be.mono ?_
  rintro e w1 ⟨k, rfl, _, _, hb1⟩
  have hw1 := hb0.trans (hb1.mono hb0.size)
  have hT1 := hT0.below hb1 hT0.lt
  have hA1 := hA0.below hb1 hA0.lt
  have hw2 := hw1.alloc hw1.size (.cells #[.string s, .string ⟨#[]⟩, .int .i64 0] 53)
  have hT2 := hT1.alloc (.cells #[.string s, .string ⟨#[]⟩, .int .i64 0] 53)
  have hA2 := hA1.alloc (.cells #[.string s, .string ⟨#[]⟩, .int .i64 0] 53)
  have a2 := hA2.cell (i := 0) rfl
  go_wp2_with (fail)
  refine (ill_any 9 _).mono ?_
  rintro e w9 ⟨rfl, hb9⟩
  have hw9 := hw2.trans (hb9.mono hw2.size)
  have hT9 := hT2.below hb9 hT2.lt
  have t0 := hT9.cell (i := 0) rfl
  have t1 := hT9.cell (i := 1) rfl
  have f0 := hT9.froz 0
  have f1 := hT9.froz 1
  go_wp2
  have hp := (hT9.put 0 (.slice none 0 0)).put 1 (.int .i64 9)
  have k0 := hp.cell (i := 0) rfl
  have k1 := hp.cell (i := 1) rfl
  refine bodyPost_ret (v := fsOut (.slice none 0 0) 9) (by simp only [results, Tryz.results13]; simp [go_sem, k0, k1]) rfl ⟨none, 0, rfl, ownF_nil _ _, ?_⟩
  exact (hw9.setCell (by simp) _).setCell (by simp) _

set_option maxHeartbeats 4000000 in
theorem specAppend_newfull (A : Option Addr) (L : List Fil) (c : Nat) (s t : ByteArray) (w : World) (hL : Fls w w.heap.size A L) (hs : s.size ≤ maxLen) (ht : t.size ≤ maxLen) (hl : ¬ 20000 < t.size) (hc : codeOf L s = 6) (hm : ¬ 12 ≤ L.length) (hsum : 3000 < t.size) :
    Calls Tryz.prog 13 #[.agg #[.slice A L.length c], .string s, .string t] w fun e w' => ∃ C x, e = .returned (fsOut (.slice C ([] : List Fil).length x) 9) ∧ OwnF w' w.heap.size (.slice C ([] : List Fil).length x) ([] : List Fil) ∧ Below w.heap.size w w' := by
  have hT0 := Blk.fresh (w.alloc (.cells #[.slice A L.length c] 25)) 29 [.slice none 0 0, .int .i64 0]
  have hA0 := (Blk.fresh w 25 [.slice A L.length c]).alloc (.cells #[.slice none 0 0, .int .i64 0] 29)
  simp only [World.size_alloc] at hT0
  have hb0 : Below w.heap.size w ((w.alloc (.cells #[.slice A L.length c] 25)).alloc (.cells #[.slice none 0 0, .int .i64 0] 29)) := ((Below.refl _ _).alloc (Nat.le_refl _) _).alloc (by simp) _
  have hz0 : ((w.alloc (.cells #[.slice A L.length c] 25)).alloc (.cells #[.slice none 0 0, .int .i64 0] 29)).heap.size = w.heap.size + 2 := by simp
  have htm := ht
  unfold maxLen at htm
  have hl' : ¬ (20000 : Int) < (t.size : Int) := by omega
  have Be := l03Begin_any A L c s _ ((hL.below hb0 (Nat.le_refl _)).mono hb0.size) hs
  rw [hc] at Be
  have hm' : ¬ (12 : Int) ≤ (L.length : Int) := by omega
  have hsum' : (3000 : Int) < (t.size : Int) := by omega
  go_enter Tryz.func13, Tryz.ntmps13
  go_wp2_with (fail)
  refine Be.mono ?_
  rintro e w1 ⟨k, rfl, _, _, hb1⟩
  have hw1 := hb0.trans (hb1.mono hb0.size)
  have hT1 := hT0.below hb1 hT0.lt
  have hA1 := hA0.below hb1 hA0.lt
  have hw2 := hw1.alloc hw1.size (.cells #[.string s, .string ⟨#[]⟩, .int .i64 0] 53)
  have hT2 := hT1.alloc (.cells #[.string s, .string ⟨#[]⟩, .int .i64 0] 53)
  have hA2 := hA1.alloc (.cells #[.string s, .string ⟨#[]⟩, .int .i64 0] 53)
  have a2 := hA2.cell (i := 0) rfl
  go_wp2_with (fail)
  refine (ill_any 9 _).mono ?_
  rintro e w9 ⟨rfl, hb9⟩
  have hw9 := hw2.trans (hb9.mono hw2.size)
  have hT9 := hT2.below hb9 hT2.lt
  have t0 := hT9.cell (i := 0) rfl
  have t1 := hT9.cell (i := 1) rfl
  have f0 := hT9.froz 0
  have f1 := hT9.froz 1
  go_wp2
  have hp := (hT9.put 0 (.slice none 0 0)).put 1 (.int .i64 9)
  have k0 := hp.cell (i := 0) rfl
  have k1 := hp.cell (i := 1) rfl
  refine bodyPost_ret (v := fsOut (.slice none 0 0) 9) (by simp only [results, Tryz.results13]; simp [go_sem, k0, k1]) rfl ⟨none, 0, rfl, ownF_nil _ _, ?_⟩
  exact (hw9.setCell (by simp) _).setCell (by simp) _

set_option maxHeartbeats 4000000 in
theorem specAppend_full (A : Option Addr) (L : List Fil) (c : Nat) (s t : ByteArray) (i : Nat) (hi : i < L.length) (w : World) (hL : Fls w w.heap.size A L) (hs : s.size ≤ maxLen) (ht : t.size ≤ maxLen) (hl : ¬ 20000 < t.size) (hc : codeOf L s = 0) (hfi : findF L s = some L[i]) (hR : Rising L) (hd : L[i].data.size ≤ 3000) (hsum : 3000 < L[i].data.size + t.size) :
    Calls Tryz.prog 13 #[.agg #[.slice A L.length c], .string s, .string t] w fun e w' => ∃ C x, e = .returned (fsOut (.slice C ([] : List Fil).length x) 9) ∧ OwnF w' w.heap.size (.slice C ([] : List Fil).length x) ([] : List Fil) ∧ Below w.heap.size w w' := by
  have hT0 := Blk.fresh (w.alloc (.cells #[.slice A L.length c] 25)) 29 [.slice none 0 0, .int .i64 0]
  have hA0 := (Blk.fresh w 25 [.slice A L.length c]).alloc (.cells #[.slice none 0 0, .int .i64 0] 29)
  simp only [World.size_alloc] at hT0
  have hb0 : Below w.heap.size w ((w.alloc (.cells #[.slice A L.length c] 25)).alloc (.cells #[.slice none 0 0, .int .i64 0] 29)) := ((Below.refl _ _).alloc (Nat.le_refl _) _).alloc (by simp) _
  have hz0 : ((w.alloc (.cells #[.slice A L.length c] 25)).alloc (.cells #[.slice none 0 0, .int .i64 0] 29)).heap.size = w.heap.size + 2 := by simp
  have htm := ht
  unfold maxLen at htm
  have hl' : ¬ (20000 : Int) < (t.size : Int) := by omega
  have Be := l03Begin_any A L c s _ ((hL.below hb0 (Nat.le_refl _)).mono hb0.size) hs
  rw [hc] at Be
  have hsum' : (3000 : Int) < (L[i].data.size : Int) + (t.size : Int) := by omega
  go_enter Tryz.func13, Tryz.ntmps13
  go_wp2_with (fail)
  refine Be.mono ?_
  rintro e w1 ⟨k, rfl, hk, _, hb1⟩
  obtain ⟨i', hi', rfl, hf', hn'⟩ := hk (by first | rfl | trivial)
  obtain rfl : i' = i := by
    rw [hfi] at hf'
    rcases Nat.decEq i' i with h | h
    · exact absurd (congrArg Fil.name (Option.some.inj hf')).symm (name_ne hR hi' hi h)
    · exact h
  clear hn'
  have hw1 := hb0.trans (hb1.mono hb0.size)
  have hT1 := hT0.below hb1 hT0.lt
  have hA1 := hA0.below hb1 hA0.lt
  have hw2 := hw1.alloc hw1.size (.cells #[.string L[i'].name, .string L[i'].data, .int .i64 L[i'].sync] 53)
  have hT2 := hT1.alloc (.cells #[.string L[i'].name, .string L[i'].data, .int .i64 L[i'].sync] 53)
  have hA2 := hA1.alloc (.cells #[.string s, .string ⟨#[]⟩, .int .i64 0] 53)
  have a2 := hA2.cell (i := 0) rfl
  obtain ⟨a, rfl, hab, c0, c1, c2, hff⟩ := (hL.below (hw1.alloc hw1.size (.cells #[.string s, .string ⟨#[]⟩, .int .i64 0] 53)) (Nat.le_refl _)).at i' hi'
  have hi3 : (i' : Int) < (L.length : Int) := by omega
  go_wp2_with (fail)
  refine (ill_any 9 _).mono ?_
  rintro e w9 ⟨rfl, hb9⟩
  have hw9 := hw2.trans (hb9.mono hw2.size)
  have hT9 := hT2.below hb9 hT2.lt
  have t0 := hT9.cell (i := 0) rfl
  have t1 := hT9.cell (i := 1) rfl
  have f0 := hT9.froz 0
  have f1 := hT9.froz 1
  go_wp2
  have hp := (hT9.put 0 (.slice none 0 0)).put 1 (.int .i64 9)
  have k0 := hp.cell (i := 0) rfl
  have k1 := hp.cell (i := 1) rfl
  refine bodyPost_ret (v := fsOut (.slice none 0 0) 9) (by simp only [results, Tryz.results13]; simp [go_sem, k0, k1]) rfl ⟨none, 0, rfl, ownF_nil _ _, ?_⟩
  exact (hw9.setCell (by simp) _).setCell (by simp) _

set_option maxHeartbeats 8000000 in
theorem specAppend_new (a : Addr) (L : List Fil) (c : Nat) (s t : ByteArray) (w : World) (hL : Fls w w.heap.size (some a) L) (hS : Small L) (hs : s.size ≤ maxLen) (ht : t.size ≤ maxLen) (hl : ¬ 20000 < t.size) (hc : codeOf L s = 6) (hR : Rising L) (hm : ¬ 12 ≤ L.length) (hsum : ¬ 3000 < t.size) (hcc : L.length ≤ c) (hcm : c ≤ maxLen) (hff0 : (⟨s, ⟨#[]⟩ ++ t, 0⟩ : Fil).fits) :
    Calls Tryz.prog 13 #[.agg #[.slice (some a) L.length c], .string s, .string t] w fun e w' => ∃ C x, e = .returned (fsOut (.slice C (putL L ⟨s, ⟨#[]⟩ ++ t, 0⟩).length x) 0) ∧ OwnF w' w.heap.size (.slice C (putL L ⟨s, ⟨#[]⟩ ++ t, 0⟩).length x) (putL L ⟨s, ⟨#[]⟩ ++ t, 0⟩) ∧ Below w.heap.size w w' := by
  have hT0 := Blk.fresh (w.alloc (.cells #[.slice (some a) L.length c] 25)) 29 [.slice none 0 0, .int .i64 0]
  have hA0 := (Blk.fresh w 25 [.slice (some a) L.length c]).alloc (.cells #[.slice none 0 0, .int .i64 0] 29)
  simp only [World.size_alloc] at hT0
  have hb0 : Below w.heap.size w ((w.alloc (.cells #[.slice (some a) L.length c] 25)).alloc (.cells #[.slice none 0 0, .int .i64 0] 29)) := ((Below.refl _ _).alloc (Nat.le_refl _) _).alloc (by simp) _
  have hz0 : ((w.alloc (.cells #[.slice (some a) L.length c] 25)).alloc (.cells #[.slice none 0 0, .int .i64 0] 29)).heap.size = w.heap.size + 2 := by simp
  have htm := ht
  unfold maxLen at htm
  have hl' : ¬ (20000 : Int) < (t.size : Int) := by omega
  have Be := l03Begin_any (some a) L c s _ ((hL.below hb0 (Nat.le_refl _)).mono hb0.size) hs
  rw [hc] at Be
  have hm' : ¬ (12 : Int) ≤ (L.length : Int) := by omega
  have hsum' : ¬ (3000 : Int) < (t.size : Int) := by omega
  have HPut := Lib.hid (fun c' W h h1 h2 => put_any a L c' ⟨s, ⟨#[]⟩ ++ t, 0⟩ W h hS h1 h2 hR hff0)
  unfold Fil.val at HPut
  simp only at HPut
  obtain ⟨M, HM⟩ : ∃ M, Hid (putL L ⟨s, ⟨#[]⟩ ++ t, 0⟩ = M) := ⟨_, Lib.hid rfl⟩
  rw [HM.out] at HPut ⊢
  go_enter Tryz.func13, Tryz.ntmps13
  go_wp2_with (fail)
  refine Be.mono ?_
  rintro e w1 ⟨k, rfl, _, _, hb1⟩
  have hw1 := hb0.trans (hb1.mono hb0.size)
  have hT1 := hT0.below hb1 hT0.lt
  have hA1 := hA0.below hb1 hA0.lt
  have hw3 := hw1.alloc hw1.size (.cells #[.string s, .string (⟨#[]⟩ ++ t), .int .i64 0] 53)
  have hT3 := hT1.alloc (.cells #[.string s, .string (⟨#[]⟩ ++ t), .int .i64 0] 53)
  have hA2 := hA1.alloc (.cells #[.string s, .string ⟨#[]⟩, .int .i64 0] 53)
  have a2 := hA2.cell (i := 0) rfl
  have hA3 := hA1.alloc (.cells #[.string s, .string (⟨#[]⟩ ++ t), .int .i64 0] 53)
  have a3 := hA3.cell (i := 0) rfl
  go_wp2_with (fail)
  refine (HPut.out c _ ((hL.below hw3 (Nat.le_refl _)).mono hw3.size) hcc hcm).mono ?_
  rintro e w4 ⟨C, x, rfl, hO4, hb4⟩
  have hw4 := hw3.trans (hb4.mono hw3.size)
  have hT4 := hT3.below hb4 hT3.lt
  have hT3l := hT3.lt
  have t0 := hT4.cell (i := 0) rfl
  have t1 := hT4.cell (i := 1) rfl
  have f0 := hT4.froz 0
  have f1 := hT4.froz 1
  go_wp2
  have hp := (hT4.put 0 (.slice C M.length x)).put 1 (.int .i64 0)
  have k0 := hp.cell (i := 0) rfl
  have k1 := hp.cell (i := 1) rfl
  have hO7 := OwnF.far (OwnF.far hO4 (p := ⟨w.heap.size + 1, 0, none⟩) (by simp only []; omega) (.slice C M.length x)) (p := ⟨w.heap.size + 1, 1, none⟩) (by simp only []; omega) (.int .i64 0)
  refine bodyPost_ret (v := fsOut (.slice C M.length x) 0) (by simp only [results, Tryz.results13]; simp [go_sem, k0, k1]) rfl ⟨C, x, rfl, OwnF.base hO7 (by omega), ?_⟩
  exact (hw4.setCell (by simp) _).setCell (by simp) _

set_option maxHeartbeats 8000000 in
theorem specAppend_old (a : Addr) (L : List Fil) (c : Nat) (s t : ByteArray) (i : Nat) (hi : i < L.length) (w : World) (hL : Fls w w.heap.size (some a) L) (hS : Small L) (hs : s.size ≤ maxLen) (ht : t.size ≤ maxLen) (hl : ¬ 20000 < t.size) (hc : codeOf L s = 0) (hfi : findF L s = some L[i]) (hR : Rising L) (hd : L[i].data.size ≤ 3000) (hsum : ¬ 3000 < L[i].data.size + t.size) (hcc : L.length ≤ c) (hcm : c ≤ maxLen) (hff0 : (⟨L[i].name, L[i].data ++ t, L[i].sync⟩ : Fil).fits) :
    Calls Tryz.prog 13 #[.agg #[.slice (some a) L.length c], .string s, .string t] w fun e w' => ∃ C x, e = .returned (fsOut (.slice C (putL L ⟨L[i].name, L[i].data ++ t, L[i].sync⟩).length x) 0) ∧ OwnF w' w.heap.size (.slice C (putL L ⟨L[i].name, L[i].data ++ t, L[i].sync⟩).length x) (putL L ⟨L[i].name, L[i].data ++ t, L[i].sync⟩) ∧ Below w.heap.size w w' := by
  have hT0 := Blk.fresh (w.alloc (.cells #[.slice (some a) L.length c] 25)) 29 [.slice none 0 0, .int .i64 0]
  have hA0 := (Blk.fresh w 25 [.slice (some a) L.length c]).alloc (.cells #[.slice none 0 0, .int .i64 0] 29)
  simp only [World.size_alloc] at hT0
  have hb0 : Below w.heap.size w ((w.alloc (.cells #[.slice (some a) L.length c] 25)).alloc (.cells #[.slice none 0 0, .int .i64 0] 29)) := ((Below.refl _ _).alloc (Nat.le_refl _) _).alloc (by simp) _
  have hz0 : ((w.alloc (.cells #[.slice (some a) L.length c] 25)).alloc (.cells #[.slice none 0 0, .int .i64 0] 29)).heap.size = w.heap.size + 2 := by simp
  have htm := ht
  unfold maxLen at htm
  have hl' : ¬ (20000 : Int) < (t.size : Int) := by omega
  have Be := l03Begin_any (some a) L c s _ ((hL.below hb0 (Nat.le_refl _)).mono hb0.size) hs
  rw [hc] at Be
  have hsum' : ¬ (3000 : Int) < (L[i].data.size : Int) + (t.size : Int) := by omega
  have HPut := Lib.hid (fun c' W h h1 h2 => put_any a L c' ⟨L[i].name, L[i].data ++ t, L[i].sync⟩ W h hS h1 h2 hR hff0)
  unfold Fil.val at HPut
  simp only at HPut
  obtain ⟨M, HM⟩ : ∃ M, Hid (putL L ⟨L[i].name, L[i].data ++ t, L[i].sync⟩ = M) := ⟨_, Lib.hid rfl⟩
  rw [HM.out] at HPut ⊢
  go_enter Tryz.func13, Tryz.ntmps13
  go_wp2_with (fail)
  refine Be.mono ?_
  rintro e w1 ⟨k, rfl, hk, _, hb1⟩
  obtain ⟨i', hi', rfl, hf', hn'⟩ := hk (by first | rfl | trivial)
  obtain rfl : i' = i := by
    rw [hfi] at hf'
    rcases Nat.decEq i' i with h | h
    · exact absurd (congrArg Fil.name (Option.some.inj hf')).symm (name_ne hR hi' hi h)
    · exact h
  clear hn'
  have hw1 := hb0.trans (hb1.mono hb0.size)
  have hT1 := hT0.below hb1 hT0.lt
  have hA1 := hA0.below hb1 hA0.lt
  have hw3 := hw1.alloc hw1.size (.cells #[.string L[i'].name, .string (L[i'].data ++ t), .int .i64 L[i'].sync] 53)
  have hT3 := hT1.alloc (.cells #[.string L[i'].name, .string (L[i'].data ++ t), .int .i64 L[i'].sync] 53)
  have hA2 := hA1.alloc (.cells #[.string s, .string ⟨#[]⟩, .int .i64 0] 53)
  have a2 := hA2.cell (i := 0) rfl
  have hA3 := hA1.alloc (.cells #[.string L[i'].name, .string (L[i'].data ++ t), .int .i64 L[i'].sync] 53)
  have a3 := hA3.cell (i := 0) rfl
  obtain ⟨a', e', hab, c0, c1, c2, hff⟩ := (hL.below (hw1.alloc hw1.size (.cells #[.string s, .string ⟨#[]⟩, .int .i64 0] 53)) (Nat.le_refl _)).at i' hi'
  cases e'
  have hi3 : (i' : Int) < (L.length : Int) := by omega
  go_wp2_with (fail)
  refine (HPut.out c _ ((hL.below hw3 (Nat.le_refl _)).mono hw3.size) hcc hcm).mono ?_
  rintro e w4 ⟨C, x, rfl, hO4, hb4⟩
  have hw4 := hw3.trans (hb4.mono hw3.size)
  have hT4 := hT3.below hb4 hT3.lt
  have hT3l := hT3.lt
  have t0 := hT4.cell (i := 0) rfl
  have t1 := hT4.cell (i := 1) rfl
  have f0 := hT4.froz 0
  have f1 := hT4.froz 1
  go_wp2
  have hp := (hT4.put 0 (.slice C M.length x)).put 1 (.int .i64 0)
  have k0 := hp.cell (i := 0) rfl
  have k1 := hp.cell (i := 1) rfl
  have hO7 := OwnF.far (OwnF.far hO4 (p := ⟨w.heap.size + 1, 0, none⟩) (by simp only []; omega) (.slice C M.length x)) (p := ⟨w.heap.size + 1, 1, none⟩) (by simp only []; omega) (.int .i64 0)
  refine bodyPost_ret (v := fsOut (.slice C M.length x) 0) (by simp only [results, Tryz.results13]; simp [go_sem, k0, k1]) rfl ⟨C, x, rfl, OwnF.base hO7 (by omega), ?_⟩
  exact (hw4.setCell (by simp) _).setCell (by simp) _

theorem data_3000 {L : List Fil} (h : fsOK L = true) {i : Nat} (hi : i < L.length) : L[i].data.size ≤ 3000 := by
  have := ((fsOK_iff.1 h).2 i hi).1
  unfold okF at this
  simp at this
  omega
theorem emp_size (t : ByteArray) : ((⟨#[]⟩ : ByteArray) ++ t).size = t.size := by rw [ByteArray.size_append]; exact Nat.zero_add _

theorem ins_pos (f : Fil) (L : List Fil) : 0 < (insF f L).length := by
  cases L with
  | nil => simp [insF]
  | cons g L => unfold insF; split <;> simp
theorem put_pos (L : List Fil) (f : Fil) : 0 < (putL L f).length := ins_pos _ _
/-- FsAppend: spec and impl answer alike. -/
theorem fsAppend_bothH (L : List Fil) (s t : ByteArray) (a0 a1 a2 a3 a4 : Addr) (hf : ∀ f ∈ L, f.fits) (hS : Small L) (hs : s.size ≤ maxLen) (ht : t.size ≤ maxLen) (hs2 : s.size ≤ 1048576) (ht2 : t.size ≤ 1048576) :
    ∃ (M : List Fil) (cd : Int), (∀ f ∈ M, f.fits) ∧ M.length ≤ L.length + 1 ∧ ((Small M ∧ (cd = 0 → 0 < M.length)) ∧ (cd = 0 → ApHow L s t M)) ∧
      (∀ W a c, Fls W W.heap.size (some a) L → L.length ≤ c → c ≤ maxLen → Calls Tryz.prog 13 #[.agg #[.slice (some a) L.length c], .string s, .string t] W fun e w' => ∃ C x, e = .returned (fsOut (.slice C M.length x) cd) ∧ OwnF w' W.heap.size (.slice C M.length x) M ∧ Below W.heap.size W w') ∧
      (∀ W A c, Fls W W.heap.size A L → Errs W a0 a1 a2 a3 a4 → Calls Tryz.prog 6 #[.agg #[.slice A L.length c], .string s, .string t] W fun e w' => ∃ C x, e = .returned (fsOut (.slice C M.length x) cd) ∧ OwnF w' W.heap.size (.slice C M.length x) M ∧ Below W.heap.size W w') := by
  have hsN : ∀ x ∈ [s], x.size ≤ maxLen := by intro x hx; simp at hx; subst hx; exact hs
  have nil : ∀ {f : FuncId} {args : Array Value} {W : World} {cd : Int}, (Calls Tryz.prog f args W fun e w' => e = .returned (fsOut (.slice none 0 0) cd) ∧ Below W.heap.size W w') → Calls Tryz.prog f args W fun e w' => ∃ C x, e = .returned (fsOut (.slice C ([] : List Fil).length x) cd) ∧ OwnF w' W.heap.size (.slice C ([] : List Fil).length x) [] ∧ Below W.heap.size W w' :=
    fun h => h.mono fun e w' ⟨he, hb⟩ => ⟨none, 0, he, ownF_nil _ _, hb⟩
  by_cases htl : 20000 < t.size
  · exact ⟨[], 2, by simp, by simp, ⟨⟨small_nil, fun h => absurd h (by decide)⟩, fun h => absurd h (by decide)⟩, fun W a c hL _ _ => specAppend_long (some a) L c s t W hs ht htl, fun W A c hL hE => implAppend_long A L c s t W ht htl⟩
  rcases code_cases L s with ⟨h1, hc⟩ | ⟨h1, h2, hc⟩ | ⟨h1, h2, h3, h4, hc⟩ | ⟨h1, h2, h3, ⟨i, hi, h4, h5⟩, hc⟩
  · refine ⟨[], 2, by simp, by simp, ⟨⟨small_nil, fun h => absurd h (by decide)⟩, fun h => absurd h (by decide)⟩, fun W a c hL _ _ => specAppend_err (some a) L c s t 2 W hL hs ht htl hc (by decide) (by decide), fun W A c hL hE => implFsAppend_of A L c s t W [] 2 ht htl (Lib.hid (nil ?_))⟩
    have hb := wFsAppend_below A L c s t W
    exact change_long A L c _ [s] 1 _ a0 a1 a2 a3 a4 _ (hE.below hb) (wFsAppend_names A L c s t W) (by simp) hsN h1
  · refine ⟨[], 1, by simp, by simp, ⟨⟨small_nil, fun h => absurd h (by decide)⟩, fun h => absurd h (by decide)⟩, fun W a c hL _ _ => specAppend_err (some a) L c s t 1 W hL hs ht htl hc (by decide) (by decide), fun W A c hL hE => implFsAppend_of A L c s t W [] 1 ht htl (Lib.hid (nil ?_))⟩
    have hb := wFsAppend_below A L c s t W
    exact change_bad A L c _ [s] 1 _ a0 a1 a2 a3 a4 _ (hE.below hb) ((hL.below hb (Nat.le_refl _)).mono hb.size) (wFsAppend_names A L c s t W) (by simp) hsN h1 h2
  · have FULL : (∀ W b n, MapF W b n L → Errs W a0 a1 a2 a3 a4 → Calls Tryz.prog 41 #[.map (some b), .string s, .string t] W fun e w' => e = .returned (errV a4) ∧ Below W.heap.size W w') →
        ∀ W A c, Fls W W.heap.size A L → Errs W a0 a1 a2 a3 a4 → Calls Tryz.prog 6 #[.agg #[.slice A L.length c], .string s, .string t] W fun e w' => ∃ C x, e = .returned (fsOut (.slice C ([] : List Fil).length x) 9) ∧ OwnF w' W.heap.size (.slice C ([] : List Fil).length x) [] ∧ Below W.heap.size W w' := fun X W A c hL hE => by
      refine implFsAppend_of A L c s t W [] 9 ht htl (Lib.hid (nil ?_))
      have hb := wFsAppend_below A L c s t W
      exact change_err A L c _ [s] 1 40 _ 4 a4 a0 a1 a2 a3 a4 _ (hE.below hb) ((hL.below hb (Nat.le_refl _)).mono hb.size) (wFsAppend_names A L c s t W) (by simp) hsN h1 h2 enters_append rfl
        (Lib.hid fun W2 b n hW2 _ hM _ => appendC_err _ _ b a4 s t W2 (((wFsAppend_box0 A L c s t W).below hW2 (wFsAppend_box0 A L c s t W).lt).cell (i := 0) rfl) (((wFsAppend_box1 A L c s t W).below hW2 (wFsAppend_box1 A L c s t W).lt).cell (i := 0) rfl)
          (Lib.hid (X W2 b n hM ((hE.below hb).below hW2))))
    by_cases hm : 12 ≤ L.length
    · exact ⟨[], 9, by simp, by simp, ⟨⟨small_nil, fun h => absurd h (by decide)⟩, fun h => absurd h (by decide)⟩, fun W a c hL _ _ => specAppend_many (some a) L c s t W hL hs ht htl hc hm, FULL fun W b n hM hE => extend_err b n L s t a0 a1 a2 a3 a4 W hM hs hE h4 hm⟩
    · by_cases hsum : 3000 < t.size
      · exact ⟨[], 9, by simp, by simp, ⟨⟨small_nil, fun h => absurd h (by decide)⟩, fun h => absurd h (by decide)⟩, fun W a c hL _ _ => specAppend_newfull (some a) L c s t W hL hs ht htl hc hm hsum,
          FULL fun W b n hM hE => extend_full b n L s t ⟨s, ⟨#[]⟩, 0⟩ a0 a1 a2 a3 a4 W (by omega) (by show 0 ≤ 3000; omega) hE (by show 3000 < 0 + t.size; omega) (Lib.hid (make_new b n L s a0 a1 a2 a3 a4 W hM hs hE h4 (by omega)))⟩
      · have hR := rising_of_ok h3
        have hnm : nameB s = true := by have h2' := h2; rw [open_one] at h2'; simp at h2'; exact h2'.2
        have hes := emp_size t
        have hff0 : (⟨s, ⟨#[]⟩ ++ t, 0⟩ : Fil).fits := ⟨hs, by show ((⟨#[]⟩ : ByteArray) ++ t).size ≤ maxLen; rw [hes]; exact ht, by show (-9223372036854775808 : Int) ≤ 0; omega, by show (0 : Int) ≤ 9223372036854775807; omega⟩
        have hfx : ∀ f ∈ putL L ⟨s, ⟨#[]⟩ ++ t, 0⟩, f.fits := fun f h => by
          rcases put_mem h with rfl | h
          · exact hff0
          · exact hf f h
        have hpl := put_len L ⟨s, ⟨#[]⟩ ++ t, 0⟩
        have hSx : Small (putL L ⟨s, ⟨#[]⟩ ++ t, 0⟩) := by
          refine small_of (L := L) (by omega) fun g hg => ?_
          rcases put_mem hg with rfl | h
          · exact ⟨hs2, by show ((⟨#[]⟩ : ByteArray) ++ t).size ≤ _; rw [hes]; omega⟩
          · exact small_mem hS h
        refine ⟨putL L ⟨s, ⟨#[]⟩ ++ t, 0⟩, 0, hfx, hpl, ⟨⟨hSx, fun _ => put_pos _ _⟩, fun _ => ⟨h3, hnm, .inl ⟨h4, by omega, by omega, rfl⟩⟩⟩, fun W a c hL h6 h7 => specAppend_new a L c s t W hL hS hs ht htl hc hR hm hsum h6 h7 hff0, fun W A c hL hE => implFsAppend_of A L c s t W _ 0 ht htl (Lib.hid ?_)⟩
        have hb := wFsAppend_below A L c s t W
        exact change_ok A L c _ [s] 1 40 _ _ _ ((hL.below hb (Nat.le_refl _)).mono hb.size) (wFsAppend_names A L c s t W) (by simp) hsN h1 h2 enters_append (rising_put hR _) hfx hSx
          (Lib.hid fun W2 b n hW2 _ hM hn2 => (appendC_ok _ _ b (n + 1) _ s t W2 (((wFsAppend_box0 A L c s t W).below hW2 (wFsAppend_box0 A L c s t W).lt).cell (i := 0) rfl) (((wFsAppend_box1 A L c s t W).below hW2 (wFsAppend_box1 A L c s t W).lt).cell (i := 0) rfl)
            (Lib.hid (extend_ok b n L s t ⟨s, ⟨#[]⟩, 0⟩ W2 hM (by omega) hs (by omega) (by show 0 ≤ 3000; omega) rfl (by show ¬ 3000 < 0 + t.size; omega) (Lib.hid (make_new b n L s a0 a1 a2 a3 a4 W2 hM hs ((hE.below hb).below hW2) h4 (by omega)))))).mono fun e w' ⟨he, hm, hg⟩ => ⟨he, ⟨n + 1, by omega, hm⟩, hg⟩)
  · have hR := rising_of_ok h3
    have hd := data_3000 h3 hi
    have hfi := hf _ (List.getElem_mem hi)
    have hl12 := (fsOK_iff.1 h3).1
    by_cases hsum : 3000 < L[i].data.size + t.size
    · refine ⟨[], 9, by simp, by simp, ⟨⟨small_nil, fun h => absurd h (by decide)⟩, fun h => absurd h (by decide)⟩, fun W a c hL _ _ => specAppend_full (some a) L c s t i hi W hL hs ht htl hc h4 hR hd hsum, fun W A c hL hE => implFsAppend_of A L c s t W [] 9 ht htl (Lib.hid (nil ?_))⟩
      have hb := wFsAppend_below A L c s t W
      exact change_err A L c _ [s] 1 40 _ 4 a4 a0 a1 a2 a3 a4 _ (hE.below hb) ((hL.below hb (Nat.le_refl _)).mono hb.size) (wFsAppend_names A L c s t W) (by simp) hsN h1 h2 enters_append rfl
        (Lib.hid fun W2 b n hW2 _ hM _ => appendC_err _ _ b a4 s t W2 (((wFsAppend_box0 A L c s t W).below hW2 (wFsAppend_box0 A L c s t W).lt).cell (i := 0) rfl) (((wFsAppend_box1 A L c s t W).below hW2 (wFsAppend_box1 A L c s t W).lt).cell (i := 0) rfl)
          (Lib.hid (extend_full b n L s t L[i] a0 a1 a2 a3 a4 W2 (by omega) hd ((hE.below hb).below hW2) hsum (Lib.hid (make_some b n L s L[i] a0 a1 a2 a3 a4 W2 hM hs ((hE.below hb).below hW2) h4)))))
    · have hnm : nameB s = true := by have h2' := h2; rw [open_one] at h2'; simp at h2'; exact h2'.2
      have hds : (L[i].data ++ t).size = L[i].data.size + t.size := ByteArray.size_append
      have hff0 : (⟨L[i].name, L[i].data ++ t, L[i].sync⟩ : Fil).fits := ⟨hfi.1, by show (L[i].data ++ t).size ≤ maxLen; rw [hds]; unfold maxLen; omega, hfi.2.2⟩
      have hfx : ∀ f ∈ putL L ⟨L[i].name, L[i].data ++ t, L[i].sync⟩, f.fits := fun f h => by
        rcases put_mem h with rfl | h
        · exact hff0
        · exact hf f h
      have hpl := put_len L ⟨L[i].name, L[i].data ++ t, L[i].sync⟩
      have hSx : Small (putL L ⟨L[i].name, L[i].data ++ t, L[i].sync⟩) := by
        refine small_of (L := L) (by omega) fun g hg => ?_
        rcases put_mem hg with rfl | h
        · exact ⟨(hS.2 i hi).1, by show (L[i].data ++ t).size ≤ _; rw [hds]; omega⟩
        · exact small_mem hS h
      refine ⟨putL L ⟨L[i].name, L[i].data ++ t, L[i].sync⟩, 0, hfx, hpl, ⟨⟨hSx, fun _ => put_pos _ _⟩, fun _ => ⟨h3, hnm, .inr ⟨L[i], h4, by omega, rfl⟩⟩⟩, fun W a c hL h6 h7 => specAppend_old a L c s t i hi W hL hS hs ht htl hc h4 hR hd hsum h6 h7 hff0, fun W A c hL hE => implFsAppend_of A L c s t W _ 0 ht htl (Lib.hid ?_)⟩
      have hb := wFsAppend_below A L c s t W
      exact change_ok A L c _ [s] 1 40 _ _ _ ((hL.below hb (Nat.le_refl _)).mono hb.size) (wFsAppend_names A L c s t W) (by simp) hsN h1 h2 enters_append (rising_put hR _) hfx hSx
        (Lib.hid fun W2 b n hW2 _ hM hn2 => (appendC_ok _ _ b (n + 1) _ s t W2 (((wFsAppend_box0 A L c s t W).below hW2 (wFsAppend_box0 A L c s t W).lt).cell (i := 0) rfl) (((wFsAppend_box1 A L c s t W).below hW2 (wFsAppend_box1 A L c s t W).lt).cell (i := 0) rfl)
          (Lib.hid (extend_ok b n L s t L[i] W2 hM (by omega) hs (by omega) hd h5 hsum (Lib.hid (make_some b n L s L[i] a0 a1 a2 a3 a4 W2 hM hs ((hE.below hb).below hW2) h4))))).mono fun e w' ⟨he, hm, hg⟩ => ⟨he, ⟨n + 1, by omega, hm⟩, hg⟩)

theorem fsAppend_bothN (L : List Fil) (s t : ByteArray) (a0 a1 a2 a3 a4 : Addr) (hf : ∀ f ∈ L, f.fits) (hS : Small L) (hs : s.size ≤ maxLen) (ht : t.size ≤ maxLen) (hs2 : s.size ≤ 1048576) (ht2 : t.size ≤ 1048576) :
    ∃ (M : List Fil) (cd : Int), (∀ f ∈ M, f.fits) ∧ M.length ≤ L.length + 1 ∧ (Small M ∧ (cd = 0 → 0 < M.length)) ∧
      (∀ W a c, Fls W W.heap.size (some a) L → L.length ≤ c → c ≤ maxLen → Calls Tryz.prog 13 #[.agg #[.slice (some a) L.length c], .string s, .string t] W fun e w' => ∃ C x, e = .returned (fsOut (.slice C M.length x) cd) ∧ OwnF w' W.heap.size (.slice C M.length x) M ∧ Below W.heap.size W w') ∧
      (∀ W A c, Fls W W.heap.size A L → Errs W a0 a1 a2 a3 a4 → Calls Tryz.prog 6 #[.agg #[.slice A L.length c], .string s, .string t] W fun e w' => ∃ C x, e = .returned (fsOut (.slice C M.length x) cd) ∧ OwnF w' W.heap.size (.slice C M.length x) M ∧ Below W.heap.size W w') := by
  obtain ⟨M, cd, h1, h2, h3, h4⟩ := fsAppend_bothH L s t a0 a1 a2 a3 a4 hf hS hs ht hs2 ht2
  exact ⟨M, cd, h1, h2, h3.1, h4⟩
theorem fsAppend_both (L : List Fil) (s t : ByteArray) (a0 a1 a2 a3 a4 : Addr) (hf : ∀ f ∈ L, f.fits) (hS : Small L) (hs : s.size ≤ maxLen) (ht : t.size ≤ maxLen) (hs2 : s.size ≤ 1048576) (ht2 : t.size ≤ 1048576) :
    ∃ (M : List Fil) (cd : Int), (∀ f ∈ M, f.fits) ∧ M.length ≤ L.length + 1 ∧ Small M ∧
      (∀ W a c, Fls W W.heap.size (some a) L → L.length ≤ c → c ≤ maxLen → Calls Tryz.prog 13 #[.agg #[.slice (some a) L.length c], .string s, .string t] W fun e w' => ∃ C x, e = .returned (fsOut (.slice C M.length x) cd) ∧ OwnF w' W.heap.size (.slice C M.length x) M ∧ Below W.heap.size W w') ∧
      (∀ W A c, Fls W W.heap.size A L → Errs W a0 a1 a2 a3 a4 → Calls Tryz.prog 6 #[.agg #[.slice A L.length c], .string s, .string t] W fun e w' => ∃ C x, e = .returned (fsOut (.slice C M.length x) cd) ∧ OwnF w' W.heap.size (.slice C M.length x) M ∧ Below W.heap.size W w') := by
  obtain ⟨M, cd, h1, h2, h3, h4⟩ := fsAppend_bothN L s t a0 a1 a2 a3 a4 hf hS hs ht hs2 ht2
  exact ⟨M, cd, h1, h2, h3.1, h4⟩

end Go.Proofs.YtpgodphnjeifhaaGreatDoor


namespace Go.Proofs.YtpgodphnjeifhaaGreatDoor
open Go.RowKit
set_option linter.unusedVariables false
set_option maxRecDepth 1000000

set_option maxHeartbeats 4000000 in
theorem put_nil (f : Fil) (w : World) (hff : f.fits) :
    Calls Tryz.prog 53 #[.slice none 0 0, f.val] w fun e w' => ∃ C x, e = .returned (.slice C (putL [] f).length x) ∧ OwnF w' w.heap.size (.slice C (putL [] f).length x) (putL [] f) ∧ Below w.heap.size w w' := by
  obtain ⟨i0, hi0, hz0, hz1, hz2⟩ := info_parts infoFile
  have hp : putL [] f = [f] := rfl
  rw [hp]
  have HF := Lib.hid hff
  obtain ⟨s0, s1, z⟩ := f
  unfold Fil.val
  simp only
  have hb0 : Below w.heap.size w (w.alloc (.cells #[.string s0, .string s1, .int .i64 z] 53)) := (Below.refl _ _).alloc (Nat.le_refl _) _
  have hX0 := Blk.fresh w 53 [.string s0, .string s1, .int .i64 z]
  go_enter Tryz.func53, Tryz.ntmps53
  go_wp2
  refine wp_loop_rounds 1 ?_
  rw [rounds_succ]
  go_wp2
  go_quiet (fail)
  have hXq := hX0.drewN nq
  have hbq := below_drewN hb0 nq
  generalize (w.alloc (.cells #[.string s0, .string s1, .int .i64 z] 53)).drewN nq = wq at hXq hbq ⊢
  have hql := hXq.lt
  have hb1 := hbq.alloc hbq.size (.cells #[] 53)
  have hown0 : (wq.alloc (.cells #[] 53)).ownsRow (w.heap.size + 1) 53 3 (.slice (some ⟨wq.heap.size, 0, none⟩) 0 0) 0 [] := ⟨rfl, .inr ⟨wq.heap.size, 0, #[], rfl, by omega, heap_alloc_new wq (.cells #[] 53), Nat.le_refl _, by simp [maxLen], rfl, rfl⟩⟩
  have hX1 := hXq.alloc (.cells #[] 53)
  have x0 := hX1.cell (i := 0) rfl
  have x1 := hX1.cell (i := 1) rfl
  have x2 := hX1.cell (i := 2) rfl
  have hql1 := hX1.lt
  go_wp2_with (at_builtin; first
    | (refine wpList_append_own_none rfl _ _ 23 rfl (w.heap.size + 1) 53 i0 3 Tryz.underlying23 hi0 _ _ _ rfl hown0 rfl ?_)
    | (refine wpList_append_own _ rfl _ _ 23 rfl (w.heap.size + 1) 53 i0 (.agg #[.string ⟨#[]⟩, .string ⟨#[]⟩, .int .i64 0]) 3 40 Tryz.underlying23 hi0 hz0 hz1 hz2 rfl (by decide) _ _ _ rfl (hown0.alloc _) ⟨wq.heap.size + 1, 0, none⟩ 1 1 [.string s0, .string s1, .int .i64 z] rfl rfl (by have h := World.news_of_block (cs := #[.string s0, .string s1, .int .i64 z]) (t := 53) (fr := (0, 0)) (heap_alloc_new (wq.alloc (.cells #[] 53)) _); simpa using h) (by simp [Value.oneCell']) (by unfold maxLen; omega) (by omega) (by simp; omega) ?_; intro v2 w2 hown2 hg2 hn2; clear hn2))
  have hb3 := (hb1.alloc hb1.size (.cells #[.string s0, .string s1, .int .i64 z] 53)).grown hg2 (by have := hb1.size; simp at this ⊢; omega) (fun j e => by have := (hown0.lt j e).1; omega)
  have hX3 := (hX1.alloc (.cells #[.string s0, .string s1, .int .i64 z] 53)).grown hg2 (fun e => by have := (hown0.lt _ e.symm).1; omega)
  clear x0 x1 x2
  have x0 := hX3.cell (i := 0) rfl
  have h2 : OwnF w2 (w.heap.size + 1) v2 [⟨s0, s1, z⟩] := ⟨by simpa [flat, Fil.cells] using hown2, fun f h => by simp at h; subst h; exact HF.out⟩
  obtain ⟨C, x, rfl, _⟩ := h2.slice
  go_quiet (fail)
  have hbr := below_drewN hb3 nq
  have h2r : OwnF (w2.drewN nq) (w.heap.size + 1) (.slice C ([⟨s0, s1, z⟩] : List Fil).length x) [⟨s0, s1, z⟩] := h2
  generalize w2.drewN nq = wz at hbr h2r ⊢
  clear x0 hX3
  go_wp2_with (at_builtin; refine wpList_append_own_none rfl _ _ 23 rfl (w.heap.size + 1) 53 i0 3 Tryz.underlying23 hi0 _ _ _ rfl h2r.1 rfl ?_)
  go_ret
  exact ⟨C, x, rfl, OwnF.base h2r (by omega), hbr⟩

set_option maxHeartbeats 8000000 in
theorem specAppend_nil (s t : ByteArray) (w : World) (hL : Fls w w.heap.size none []) (hs : s.size ≤ maxLen) (ht : t.size ≤ maxLen) (hl : ¬ 20000 < t.size) (hc : codeOf [] s = 6) (hsum : ¬ 3000 < t.size) (hff0 : (⟨s, ⟨#[]⟩ ++ t, 0⟩ : Fil).fits) :
    Calls Tryz.prog 13 #[.agg #[.slice none 0 0], .string s, .string t] w fun e w' => ∃ C x, e = .returned (fsOut (.slice C (putL [] ⟨s, ⟨#[]⟩ ++ t, 0⟩).length x) 0) ∧ OwnF w' w.heap.size (.slice C (putL [] ⟨s, ⟨#[]⟩ ++ t, 0⟩).length x) (putL [] ⟨s, ⟨#[]⟩ ++ t, 0⟩) ∧ Below w.heap.size w w' := by
  have hT0 := Blk.fresh (w.alloc (.cells #[.slice none 0 0] 25)) 29 [.slice none 0 0, .int .i64 0]
  have hA0 := (Blk.fresh w 25 [.slice none 0 0]).alloc (.cells #[.slice none 0 0, .int .i64 0] 29)
  simp only [World.size_alloc] at hT0
  have hb0 : Below w.heap.size w ((w.alloc (.cells #[.slice none 0 0] 25)).alloc (.cells #[.slice none 0 0, .int .i64 0] 29)) := ((Below.refl _ _).alloc (Nat.le_refl _) _).alloc (by simp) _
  have hz0 : ((w.alloc (.cells #[.slice none 0 0] 25)).alloc (.cells #[.slice none 0 0, .int .i64 0] 29)).heap.size = w.heap.size + 2 := by simp
  have htm := ht
  unfold maxLen at htm
  have hl' : ¬ (20000 : Int) < (t.size : Int) := by omega
  have Be := l03Begin_any none [] 0 s _ ((hL.below hb0 (Nat.le_refl _)).mono hb0.size) hs
  rw [hc] at Be
  simp only [List.length_nil] at Be
  have hsum' : ¬ (3000 : Int) < (t.size : Int) := by omega
  have HPut := Lib.hid (fun W => put_nil ⟨s, ⟨#[]⟩ ++ t, 0⟩ W hff0)
  unfold Fil.val at HPut
  simp only at HPut
  obtain ⟨M, HM⟩ : ∃ M, Hid (putL [] ⟨s, ⟨#[]⟩ ++ t, 0⟩ = M) := ⟨_, Lib.hid rfl⟩
  rw [HM.out] at HPut ⊢
  go_enter Tryz.func13, Tryz.ntmps13
  go_wp2_with (fail)
  refine Be.mono ?_
  rintro e w1 ⟨k, rfl, _, _, hb1⟩
  have hw1 := hb0.trans (hb1.mono hb0.size)
  have hT1 := hT0.below hb1 hT0.lt
  have hA1 := hA0.below hb1 hA0.lt
  have hw3 := hw1.alloc hw1.size (.cells #[.string s, .string (⟨#[]⟩ ++ t), .int .i64 0] 53)
  have hT3 := hT1.alloc (.cells #[.string s, .string (⟨#[]⟩ ++ t), .int .i64 0] 53)
  have hA2 := hA1.alloc (.cells #[.string s, .string ⟨#[]⟩, .int .i64 0] 53)
  have a2 := hA2.cell (i := 0) rfl
  have hA3 := hA1.alloc (.cells #[.string s, .string (⟨#[]⟩ ++ t), .int .i64 0] 53)
  have a3 := hA3.cell (i := 0) rfl
  go_wp2_with (fail)
  refine (HPut.out _).mono ?_
  rintro e w4 ⟨C, x, rfl, hO4, hb4⟩
  have hw4 := hw3.trans (hb4.mono hw3.size)
  have hT4 := hT3.below hb4 hT3.lt
  have hT3l := hT3.lt
  have t0 := hT4.cell (i := 0) rfl
  have t1 := hT4.cell (i := 1) rfl
  have f0 := hT4.froz 0
  have f1 := hT4.froz 1
  go_wp2
  have hp := (hT4.put 0 (.slice C M.length x)).put 1 (.int .i64 0)
  have k0 := hp.cell (i := 0) rfl
  have k1 := hp.cell (i := 1) rfl
  have hO7 := OwnF.far (OwnF.far hO4 (p := ⟨w.heap.size + 1, 0, none⟩) (by simp only []; omega) (.slice C M.length x)) (p := ⟨w.heap.size + 1, 1, none⟩) (by simp only []; omega) (.int .i64 0)
  refine bodyPost_ret (v := fsOut (.slice C M.length x) 0) (by simp only [results, Tryz.results13]; simp [go_sem, k0, k1]) rfl ⟨C, x, rfl, OwnF.base hO7 (by omega), ?_⟩
  exact (hw4.setCell (by simp) _).setCell (by simp) _
end Go.Proofs.YtpgodphnjeifhaaGreatDoor

namespace Go.Proofs.YtpgodphnjeifhaaGreatDoor
open Go.RowKit
set_option linter.unusedVariables false
set_option maxRecDepth 1000000

set_option maxHeartbeats 1600000 in
theorem l03Name_any (B g : Nat) (w : World) (h : Drw w B g) :
    Calls Tryz.prog 69 #[.pointer (some ⟨g, 0, none⟩)] w fun e w' => ∃ s : ByteArray, e = .returned (.string s) ∧ s.size ≤ 20 ∧ Drw w' B g ∧ w.grownBy w' (some g) := by
  obtain ⟨S, hS⟩ : ∃ S : List ByteArray, S = [⟨#[97]⟩, ⟨#[98]⟩, ⟨#[108, 111, 103]⟩, ⟨#[115, 48, 48, 48, 48, 48, 48]⟩] := ⟨_, rfl⟩
  have hb := Blk.fresh w 9 (S.map Value.string)
  have hd := h.alloc (.cells (S.map Value.string).toArray 9)
  have P := pick_any B g w.heap.size S _ hd hb (by rw [hS]; decide) (by rw [hS]; decide)
  rw [hS] at P
  have hsz : ∀ s ∈ S, s.size ≤ 20 := by rw [hS]; decide
  rw [hS] at hsz
  have PP := Lib.hid P
  clear P
  go_enter Tryz.func69, Tryz.ntmps69
  go_wp2_with (fail)
  refine PP.out.mono ?_
  rintro e w1 ⟨s, hs, rfl, hd1, ho1⟩
  have hs' := hsz s hs
  clear hsz hs
  go_wp2
  go_ret
  exact ⟨s, rfl, hs', hd1, only_trans (World.grownBy_alloc w _ _) ho1⟩
end Go.Proofs.YtpgodphnjeifhaaGreatDoor
