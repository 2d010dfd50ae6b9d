/- Contracts of the map's sync. -/
import Derived.Test.YtapnmnghdgkbpaaDoorFFind
import Derived.Test.YtapnmnghdgkbpaaDoorFresh
import Derived.Test.YtapnmnghdgkbpaaDoorFPut
import Derived.Test.YtapnmnghdgkbpaaDoorFChg
namespace Go.Proofs.YtapnmnghdgkbpaaDoor
open Go.RowKit
set_option linter.unusedVariables false
set_option maxRecDepth 1000000

theorem MapF.below {w w' : World} {b n : Nat} {L : List Fil} (h : MapF w b n L) (hb : Below w.heap.size w w') : MapF w' b n L := World.ownsMap.kept h (grown_none hb (Nat.le_refl _)) (by simp)

set_option maxHeartbeats 2000000 in
theorem sync_some (b n : Nat) (L : List Fil) (s : ByteArray) (f : Fil) (w : World) (hM : MapF w b n L) (hn : n ≤ 1000) (hs : s.size ≤ maxLen) (hf : findF L s = some f) (hff : f.fits) (hfn : f.name = s) :
    Calls Tryd.prog 73 #[.map (some b), .string s] w fun e w' => e = .returned .nilIface ∧ MapF w' b (n + 1) (putL L ⟨f.name, f.data, (f.data.size : Int)⟩) ∧ w.grownBy w' (some b) := by
  have Fi := find_some b n L s f w hM hs hf
  obtain ⟨s0, s1, k⟩ := f
  simp only at hfn
  subst hfn
  unfold Fil.val at Fi
  simp only at Fi
  have hbl := World.ownsMap.lt hM
  go_enter Tryd.func73, Tryd.ntmps73
  go_wp2_with (fail)
  refine Fi.mono ?_
  rintro e w1 ⟨rfl, hb1⟩
  have hb2 := hb1.alloc hb1.size (.cells #[.string s0, .string s1, .int .i64 k] 84)
  have Sy := syncedFile_any ⟨s0, s1, k⟩ (w1.alloc (.cells #[.string s0, .string s1, .int .i64 k] 84)) hff
  unfold Fil.val at Sy
  simp only at Sy
  go_wp2_with (fail)
  refine Sy.mono ?_
  rintro e w3 ⟨rfl, hb3⟩
  have hb03 : Below w.heap.size w w3 := hb2.trans (hb3.mono hb2.size)
  have hM3 := hM.below hb03
  go_wp2_with (at_mapUpdate; refine wpList_mapUpdate_own _ rfl _ _ _ 88 rfl 9 84 keyed Tryd.underlying88 filElem b n _ rfl hM3 (by unfold maxLen; omega) _ _ _ rfl rfl (key_mk hs) (fileD ⟨s0, s1, (s1.size : Int)⟩) [] (filElem_mk ⟨s0, s1, (s1.size : Int)⟩) ?_)
  intro w5 hM5 hg5
  have hp := put_D L ⟨s0, s1, (s1.size : Int)⟩
  simp only at hp
  rw [hp] at hM5
  go_wp2
  go_ret
  exact ⟨rfl, hM5, ⟨hg5.os.trans hb03.os, hg5.tape.trans hb03.tape, hg5.output.trans hb03.output, Nat.le_trans hb03.size hg5.size, fun j hj hne => (hg5.block j (by have := hb03.size; omega) hne).trans (hb03.block j hj)⟩⟩

set_option maxHeartbeats 2000000 in
theorem sync_none (b n : Nat) (L : List Fil) (s : ByteArray) (a0 a1 a2 a3 a4 : Addr) (w : World) (hM : MapF w b n L) (hs : s.size ≤ maxLen) (hE : Errs w a0 a1 a2 a3 a4) (hf : findF L s = none) :
    Calls Tryd.prog 73 #[.map (some b), .string s] w fun e w' => e = .returned (errV a2) ∧ Below w.heap.size w w' := by
  have Fi := find_none b n L s a0 a1 a2 a3 a4 w hM hs hE hf
  unfold Fil.val zeroFil at Fi
  simp only at Fi
  go_enter Tryd.func73, Tryd.ntmps73
  go_wp2_with (fail)
  refine Fi.mono ?_
  rintro e w1 ⟨rfl, hb1⟩
  go_wp2
  go_ret
  exact ⟨rfl, hb1.alloc hb1.size _⟩
end Go.Proofs.YtapnmnghdgkbpaaDoor
