/- Contracts of the map's cut. -/
import Derived.Test.YtapnmnghdgkbpaaDoorFSyn
namespace Go.Proofs.YtapnmnghdgkbpaaDoor
open Go.RowKit
set_option linter.unusedVariables false
set_option maxRecDepth 1000000

set_option maxHeartbeats 4000000 in
theorem cut_some (b n : Nat) (L : List Fil) (s : ByteArray) (z : Int) (f : Fil) (w : World) (hM : MapF w b n L) (hn : n ≤ 1000) (hs : s.size ≤ maxLen) (hf : findF L s = some f) (hff : f.fits) (hfn : f.name = s) (z0 : 0 ≤ z) (z1 : z ≤ f.data.size) :
    Calls Tryd.prog 83 #[.map (some b), .string s, .int .i64 z] w fun e w' => e = .returned .nilIface ∧ MapF w' b (n + 1) (putL L ⟨f.name, f.data.extract 0 z.toNat, min f.sync z⟩) ∧ w.grownBy w' (some b) := by
  have Fi := find_some b n L s f w hM hs hf
  obtain ⟨s0, s1, k⟩ := f
  simp only at hfn z1
  subst hfn
  unfold Fil.val at Fi
  simp only at Fi
  have hd := hff.2.1
  unfold maxLen at hd
  simp only at hd
  have hbl := World.ownsMap.lt hM
  go_enter Tryd.func83, Tryd.ntmps83
  go_wp2_with (fail)
  refine Fi.mono ?_
  rintro e w1 ⟨rfl, hb1⟩
  have hb3 := hb1.alloc hb1.size (.cells #[.string s0, .string (s1.extract 0 z.toNat), .int .i64 (min k z)] 84)
  have hM3 := hM.below hb3
  go_wp2_with (at_mapUpdate; refine wpList_mapUpdate_own _ rfl _ _ _ 88 rfl 9 84 keyed Tryd.underlying88 filElem b n _ rfl hM3 (by unfold maxLen; omega) _ _ _ rfl rfl (key_mk hs) (fileD ⟨s0, s1.extract 0 z.toNat, min k z⟩) [] (filElem_mk ⟨s0, s1.extract 0 z.toNat, min k z⟩) ?_)
  intro w5 hM5 hg5
  have hp := put_D L ⟨s0, s1.extract 0 z.toNat, min k z⟩
  simp only at hp
  rw [hp] at hM5
  go_wp2
  go_ret
  exact ⟨rfl, hM5, ⟨hg5.os.trans hb3.os, hg5.tape.trans hb3.tape, hg5.output.trans hb3.output, Nat.le_trans hb3.size hg5.size, fun j hj hne => (hg5.block j (by have := hb3.size; omega) hne).trans (hb3.block j hj)⟩⟩

set_option maxHeartbeats 2000000 in
theorem cut_none (b n : Nat) (L : List Fil) (s : ByteArray) (z : Int) (a0 a1 a2 a3 a4 : Addr) (w : World) (hM : MapF w b n L) (hs : s.size ≤ maxLen) (hE : Errs w a0 a1 a2 a3 a4) (hf : findF L s = none) :
    Calls Tryd.prog 83 #[.map (some b), .string s, .int .i64 z] w fun e w' => e = .returned (errV a2) ∧ Below w.heap.size w w' := by
  have Fi := find_none b n L s a0 a1 a2 a3 a4 w hM hs hE hf
  unfold Fil.val zeroFil at Fi
  simp only at Fi
  go_enter Tryd.func83, Tryd.ntmps83
  go_wp2_with (fail)
  refine Fi.mono ?_
  rintro e w1 ⟨rfl, hb1⟩
  go_wp2
  go_ret
  exact ⟨rfl, hb1.alloc hb1.size _⟩

set_option maxHeartbeats 4000000 in
theorem cut_bad (b n : Nat) (L : List Fil) (s : ByteArray) (z : Int) (f : Fil) (a0 a1 a2 a3 a4 : Addr) (w : World) (hM : MapF w b n L) (hs : s.size ≤ maxLen) (hE : Errs w a0 a1 a2 a3 a4) (hf : findF L s = some f) (hff : f.fits) (hz : z < 0 ∨ (¬ z < 0 ∧ (f.data.size : Int) < z)) :
    Calls Tryd.prog 83 #[.map (some b), .string s, .int .i64 z] w fun e w' => e = .returned (errV a3) ∧ Below w.heap.size w w' := by
  have Fi := find_some b n L s f w hM hs hf
  obtain ⟨s0, s1, k⟩ := f
  simp only at hz
  unfold Fil.val at Fi
  simp only at Fi
  have hd := hff.2.1
  unfold maxLen at hd
  simp only at hd
  rcases hz with hz | ⟨hz0, hz⟩
  all_goals
    go_enter Tryd.func83, Tryd.ntmps83
    go_wp2_with (fail)
    refine Fi.mono ?_
    rintro e w1 ⟨rfl, hb1⟩
    have e3 := (hE.below (hb1.alloc hb1.size (.cells #[.string s0, .string s1, .int .i64 k] 84))).1.2.2.2.1
    go_wp2
    go_ret
    exact ⟨rfl, hb1.alloc hb1.size _⟩
end Go.Proofs.YtapnmnghdgkbpaaDoor
