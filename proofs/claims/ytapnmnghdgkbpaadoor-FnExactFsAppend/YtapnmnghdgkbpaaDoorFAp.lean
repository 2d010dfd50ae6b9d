/- Contracts of the map's findOrMake and extend. -/
import Derived.Test.YtapnmnghdgkbpaaDoorFSyn
import Derived.Test.YtapnmnghdgkbpaaDoorJoined
import Derived.Maps.OwnSet
import Derived.BigRegion
namespace Go.Proofs.YtapnmnghdgkbpaaDoor
open Go.RowKit
set_option linter.unusedVariables false
set_option maxRecDepth 1000000

set_option maxHeartbeats 4000000 in
theorem make_some (b n : Nat) (L : List Fil) (s : ByteArray) (f : Fil) (a0 a1 a2 a3 a4 : Addr) (w : World) (hM : MapF w b n L) (hs : s.size ≤ maxLen) (hE : Errs w a0 a1 a2 a3 a4) (hf : findF L s = some f) :
    Calls Tryd.prog 115 #[.map (some b), .string s] w fun e w' => e = .returned (.tuple #[f.val, .nilIface]) ∧ Below w.heap.size w w' := by
  have hR0 := Blk.fresh w 84 [.string ⟨#[]⟩, .string ⟨#[]⟩, .int .i64 0]
  have hb0 : Below w.heap.size w (w.alloc (.cells #[.string ⟨#[]⟩, .string ⟨#[]⟩, .int .i64 0] 84)) := (Below.refl _ _).alloc (Nat.le_refl _) _
  have Fi := find_some b n L s f _ (hM.below hb0) hs hf
  obtain ⟨s0, s1, k⟩ := f
  unfold Fil.val at Fi ⊢
  simp only at Fi ⊢
  go_enter Tryd.func115, Tryd.ntmps115
  go_wp2_with (fail)
  refine Fi.mono ?_
  rintro e w1 ⟨rfl, hb1⟩
  have hw1 := hb0.trans (hb1.mono hb0.size)
  have hw2 := hw1.alloc hw1.size (.cells #[.string s0, .string s1, .int .i64 k] 84)
  have hR1 := (hR0.below hb1 hR0.lt).alloc (.cells #[.string s0, .string s1, .int .i64 k] 84)
  have e2 := (hE.below hw2).1.2.2.1
  go_wp2_with (fail)
  refine (is_nil a2 _).mono ?_
  rintro e w3 ⟨rfl, rfl⟩
  have r0 := hR1.cell (i := 0) rfl
  have r1 := hR1.cell (i := 1) rfl
  have r2 := hR1.cell (i := 2) rfl
  have q0 := hR1.froz 0
  have q1 := hR1.froz 1
  have q2 := hR1.froz 2
  go_wp2
  have hp := ((hR1.put 0 (.string s0)).put 1 (.string s1)).put 2 (.int .i64 k)
  have k0 := hp.cell (i := 0) rfl
  have k1 := hp.cell (i := 1) rfl
  have k2 := hp.cell (i := 2) rfl
  refine bodyPost_ret (v := .tuple #[.agg #[.string s0, .string s1, .int .i64 k], .nilIface]) (by simp [results, Tryd.results115, go_sem, k0, k1, k2]) rfl ⟨rfl, ?_⟩
  exact ((hw2.setCell (by simp) _).setCell (by simp) _).setCell (by simp) _

set_option maxHeartbeats 4000000 in
theorem make_new (b n : Nat) (L : List Fil) (s : ByteArray) (a0 a1 a2 a3 a4 : Addr) (w : World) (hM : MapF w b n L) (hs : s.size ≤ maxLen) (hE : Errs w a0 a1 a2 a3 a4) (hf : findF L s = none) (hl : L.length < 12) :
    Calls Tryd.prog 115 #[.map (some b), .string s] w fun e w' => e = .returned (.tuple #[.agg #[.string s, .string ⟨#[]⟩, .int .i64 0], .nilIface]) ∧ Below w.heap.size w w' := by
  have hR0 := Blk.fresh w 84 [.string ⟨#[]⟩, .string ⟨#[]⟩, .int .i64 0]
  have hb0 : Below w.heap.size w (w.alloc (.cells #[.string ⟨#[]⟩, .string ⟨#[]⟩, .int .i64 0] 84)) := (Below.refl _ _).alloc (Nat.le_refl _) _
  have Fi := find_none b n L s a0 a1 a2 a3 a4 _ (hM.below hb0) hs (hE.below hb0) hf
  unfold Fil.val zeroFil at Fi
  simp only at Fi
  have hl' : ¬ (12 : Int) ≤ (L.length : Int) := by omega
  go_enter Tryd.func115, Tryd.ntmps115
  go_wp2_with (fail)
  refine Fi.mono ?_
  rintro e w1 ⟨rfl, hb1⟩
  have hw1 := hb0.trans (hb1.mono hb0.size)
  have hw2 := hw1.alloc hw1.size (.cells #[.string ⟨#[]⟩, .string ⟨#[]⟩, .int .i64 0] 84)
  have hR1 := (hR0.below hb1 hR0.lt).alloc (.cells #[.string ⟨#[]⟩, .string ⟨#[]⟩, .int .i64 0] 84)
  have e2 := (hE.below hw2).1.2.2.1
  have hM2 := hM.below hw2
  go_wp2_with (fail)
  refine (is_same a2 _).mono ?_
  rintro e w3 ⟨rfl, rfl⟩
  have r0 := hR1.cell (i := 0) rfl
  have r1 := hR1.cell (i := 1) rfl
  have r2 := hR1.cell (i := 2) rfl
  have q0 := hR1.froz 0
  have q1 := hR1.froz 1
  have q2 := hR1.froz 2
  go_wp2_with (at_len; refine wpList_len_own _ rfl _ 88 rfl 9 84 Tryd.underlying88 filElem b n _ rfl hM2 ?_; rw [size_D])
  have hp := ((hR1.put 0 (.string s)).put 1 (.string ⟨#[]⟩)).put 2 (.int .i64 0)
  have k0 := hp.cell (i := 0) rfl
  have k1 := hp.cell (i := 1) rfl
  have k2 := hp.cell (i := 2) rfl
  refine bodyPost_ret (v := .tuple #[.agg #[.string s, .string ⟨#[]⟩, .int .i64 0], .nilIface]) (by simp [results, Tryd.results115, go_sem, k0, k1, k2]) rfl ⟨rfl, ?_⟩
  exact ((hw2.setCell (by simp) _).setCell (by simp) _).setCell (by simp) _

set_option maxHeartbeats 4000000 in
theorem make_full (b n : Nat) (L : List Fil) (s : ByteArray) (a0 a1 a2 a3 a4 : Addr) (w : World) (hM : MapF w b n L) (hs : s.size ≤ maxLen) (hE : Errs w a0 a1 a2 a3 a4) (hf : findF L s = none) (hl : 12 ≤ L.length) :
    Calls Tryd.prog 115 #[.map (some b), .string s] w fun e w' => e = .returned (.tuple #[.agg #[.string ⟨#[]⟩, .string ⟨#[]⟩, .int .i64 0], errV a4]) ∧ Below w.heap.size w w' := by
  have hR0 := Blk.fresh w 84 [.string ⟨#[]⟩, .string ⟨#[]⟩, .int .i64 0]
  have hb0 : Below w.heap.size w (w.alloc (.cells #[.string ⟨#[]⟩, .string ⟨#[]⟩, .int .i64 0] 84)) := (Below.refl _ _).alloc (Nat.le_refl _) _
  have Fi := find_none b n L s a0 a1 a2 a3 a4 _ (hM.below hb0) hs (hE.below hb0) hf
  unfold Fil.val zeroFil at Fi
  simp only at Fi
  have hl' : (12 : Int) ≤ (L.length : Int) := by omega
  go_enter Tryd.func115, Tryd.ntmps115
  go_wp2_with (fail)
  refine Fi.mono ?_
  rintro e w1 ⟨rfl, hb1⟩
  have hw1 := hb0.trans (hb1.mono hb0.size)
  have hw2 := hw1.alloc hw1.size (.cells #[.string ⟨#[]⟩, .string ⟨#[]⟩, .int .i64 0] 84)
  have hR1 := (hR0.below hb1 hR0.lt).alloc (.cells #[.string ⟨#[]⟩, .string ⟨#[]⟩, .int .i64 0] 84)
  have e2 := (hE.below hw2).1.2.2.1
  have hM2 := hM.below hw2
  go_wp2_with (fail)
  refine (is_same a2 _).mono ?_
  rintro e w3 ⟨rfl, rfl⟩
  clear e2
  go_wp2_with (at_len; refine wpList_len_own _ rfl _ 88 rfl 9 84 Tryd.underlying88 filElem b n _ rfl hM2 ?_; rw [size_D])
  generalize w1.alloc (.cells #[.string ⟨#[]⟩, .string ⟨#[]⟩, .int .i64 0] 84) = w4 at hw2 hR1 ⊢
  have e4 := (hE.below hw2).1.2.2.2.2
  have hR4 := hR1
  have r0 := hR4.cell (i := 0) rfl
  have r1 := hR4.cell (i := 1) rfl
  have r2 := hR4.cell (i := 2) rfl
  have q0 := hR4.froz 0
  have q1 := hR4.froz 1
  have q2 := hR4.froz 2
  have hgl : 1 < w.heap.size := by
    have := hE.1.2.2.2.2
    exact World.block_lt_of_cell? w _ this
  go_region
  all_goals
    go_wp2
    have hp := (((hR4.put 0 (.string ⟨#[]⟩)).put 1 (.string ⟨#[]⟩)).put 2 (.int .i64 0)).drew
    have k0 := hp.cell (i := 0) rfl
    have k1 := hp.cell (i := 1) rfl
    have k2 := hp.cell (i := 2) rfl
    refine bodyPost_ret (v := .tuple #[.agg #[.string ⟨#[]⟩, .string ⟨#[]⟩, .int .i64 0], errV a4]) (by simp [results, Tryd.results115, go_sem, k0, k1, k2]) rfl ⟨rfl, ?_⟩
    exact below_drew (((hw2.setCell (by simp) _).setCell (by simp) _).setCell (by simp) _)

set_option maxHeartbeats 8000000 in
theorem extend_ok (b n : Nat) (L : List Fil) (s t : ByteArray) (f : Fil) (w : World) (hM : MapF w b n L) (hn : n ≤ 1000) (hs : s.size ≤ maxLen) (ht : t.size ≤ 20000) (hd : f.data.size ≤ 3000) (hfn : f.name = s) (hsum : ¬ 3000 < f.data.size + t.size)
    (Mk : Hid (Calls Tryd.prog 115 #[.map (some b), .string s] w fun e w' => e = .returned (.tuple #[f.val, .nilIface]) ∧ Below w.heap.size w w')) :
    Calls Tryd.prog 89 #[.map (some b), .string s, .string t] w fun e w' => e = .returned .nilIface ∧ MapF w' b (n + 1) (putL L ⟨f.name, f.data ++ t, f.sync⟩) ∧ w.grownBy w' (some b) := by
  obtain ⟨s0, s1, k⟩ := f
  simp only at hfn hd hsum ⊢
  subst hfn
  unfold Fil.val at Mk
  simp only at Mk
  have hbl := World.ownsMap.lt hM
  have hsum' : ¬ (3000 : Int) < (s1.size : Int) + (t.size : Int) := by omega
  go_enter Tryd.func89, Tryd.ntmps89
  go_wp2_with (fail)
  refine Mk.out.mono ?_
  rintro e w1 ⟨rfl, hb1⟩
  have hb2 := hb1.alloc hb1.size (.cells #[.string s0, .string s1, .int .i64 k] 84)
  have hX2 := Blk.fresh w1 84 [.string s0, .string s1, .int .i64 k]
  go_wp2_with (fail)
  refine (joined_any s1 t _ (by omega)).mono ?_
  rintro e w3 ⟨rfl, hb3⟩
  have hw3 := hb2.trans (hb3.mono hb2.size)
  have hX3 := hX2.below hb3 hX2.lt
  have x1 := hX3.cell (i := 1) rfl
  have q1 := hX3.froz 1
  have hX4 := hX3.put 1 (.string (s1 ++ t))
  have y0 := hX4.cell (i := 0) rfl
  have y1 := hX4.cell (i := 1) rfl
  have y2 := hX4.cell (i := 2) rfl
  have hz1 := hb1.size
  have hw4 := hw3.setCell (p := ⟨w1.heap.size, 1, none⟩) (by simpa using hz1) (.string (s1 ++ t))
  have hM4 := hM.below hw4
  go_wp2_with (at_mapUpdate; refine wpList_mapUpdate_own _ rfl _ _ _ 88 rfl 9 84 keyed Tryd.underlying88 filElem b n _ rfl hM4 (by unfold maxLen; omega) _ _ _ rfl rfl (key_mk hs) (fileD ⟨s0, s1 ++ t, k⟩) [] (filElem_mk ⟨s0, s1 ++ t, k⟩) ?_)
  intro w5 hM5 hg5
  have hp := put_D L ⟨s0, s1 ++ t, k⟩
  simp only at hp
  rw [hp] at hM5
  go_wp2
  go_ret
  exact ⟨rfl, hM5, ⟨hg5.os.trans hw4.os, hg5.tape.trans hw4.tape, hg5.output.trans hw4.output, Nat.le_trans hw4.size hg5.size, fun j hj hne => (hg5.block j (by have := hw4.size; omega) hne).trans (hw4.block j hj)⟩⟩

set_option maxHeartbeats 4000000 in
theorem extend_full (b n : Nat) (L : List Fil) (s t : ByteArray) (f : Fil) (a0 a1 a2 a3 a4 : Addr) (w : World) (ht : t.size ≤ 20000) (hd : f.data.size ≤ 3000) (hE : Errs w a0 a1 a2 a3 a4) (hsum : 3000 < f.data.size + t.size)
    (Mk : Hid (Calls Tryd.prog 115 #[.map (some b), .string s] w fun e w' => e = .returned (.tuple #[f.val, .nilIface]) ∧ Below w.heap.size w w')) :
    Calls Tryd.prog 89 #[.map (some b), .string s, .string t] w fun e w' => e = .returned (errV a4) ∧ Below w.heap.size w w' := by
  obtain ⟨s0, s1, k⟩ := f
  simp only at hd hsum
  unfold Fil.val at Mk
  simp only at Mk
  have hsum' : (3000 : Int) < (s1.size : Int) + (t.size : Int) := by omega
  go_enter Tryd.func89, Tryd.ntmps89
  go_wp2_with (fail)
  refine Mk.out.mono ?_
  rintro e w1 ⟨rfl, hb1⟩
  have hb2 := hb1.alloc hb1.size (.cells #[.string s0, .string s1, .int .i64 k] 84)
  have e4 := (hE.below hb2).1.2.2.2.2
  go_wp2
  go_ret
  exact ⟨rfl, hb2⟩

set_option maxHeartbeats 4000000 in
theorem extend_err (b n : Nat) (L : List Fil) (s t : ByteArray) (a0 a1 a2 a3 a4 : Addr) (w : World) (hM : MapF w b n L) (hs : s.size ≤ maxLen) (hE : Errs w a0 a1 a2 a3 a4) (hf : findF L s = none) (hl : 12 ≤ L.length) :
    Calls Tryd.prog 89 #[.map (some b), .string s, .string t] w fun e w' => e = .returned (errV a4) ∧ Below w.heap.size w w' := by
  have Mk := Lib.hid (make_full b n L s a0 a1 a2 a3 a4 w hM hs hE hf hl)
  go_enter Tryd.func89, Tryd.ntmps89
  go_wp2_with (fail)
  refine Mk.out.mono ?_
  rintro e w1 ⟨rfl, hb1⟩
  have hb2 := hb1.alloc hb1.size (.cells #[.string ⟨#[]⟩, .string ⟨#[]⟩, .int .i64 0] 84)
  go_wp2
  go_ret
  exact ⟨rfl, hb2⟩
end Go.Proofs.YtapnmnghdgkbpaaDoor
