/- The contracts of the map's find. -/
import Derived.Test.YtapnmnghdgkbpaaDoorFMap
import Derived.Test.YtapnmnghdgkbpaaDoorIs
import Derived.RegionTactic
import Derived.BigRegion
namespace Go.Proofs.YtapnmnghdgkbpaaDoor
open Go.RowKit
set_option linter.unusedVariables false
set_option maxRecDepth 1000000

theorem zeroFile (w : World) : (zeroValue 84).run Tryd.prog w = .ok zeroFil.val w := Tryd.zeroValue84 w
theorem keyed : Maps.Keyed Tryd.prog 9 := Maps.string_keyed Tryd.underlying9
theorem key_mk {s : ByteArray} (hs : s.size ≤ maxLen) : keyOf Tryd.prog 9 (.string s) = some (.string s.data.toList) := WideMaps.keyOf_string_mk Tryd.underlying9 hs

set_option maxHeartbeats 1000000 in
set_option maxRecDepth 1000000 in
theorem find_some (b n : Nat) (L : List Fil) (s : ByteArray) (f : Fil) (w : World) (hM : MapF w b n L) (hs : s.size ≤ maxLen) (hf : findF L s = some f) :
    Calls Tryd.prog 111 #[.map (some b), .string s] w fun e w' => e = .returned (.tuple #[f.val, .nilIface]) ∧ Below w.heap.size w w' := by
  have hM1 := World.ownsMap.alloc hM (.cells #[.string ⟨#[]⟩, .string ⟨#[]⟩, .int .i64 0] 84)
  go_enter Tryd.func111, Tryd.ntmps111
  go_wp2_with (at_lookup; refine wpList_lookup_own_ok _ rfl _ _ 88 rfl 9 84 keyed Tryd.underlying88 _ (zeroFile _) (fileD zeroFil) [] (filElem_mk _) b n _ rfl hM1 _ _ rfl (key_mk hs) ?_)
  intro v ps hv
  rw [at_D, hf] at hv
  have hv' := filElem_inv hv
  have hh : Maps.has (DataW.map (L.map ent)) (.string s.data.toList) = true := by rw [has_D, hf]; rfl
  rw [hh, hv']
  unfold Fil.val
  go_wp2
  refine bodyPost_ret (v := .tuple #[f.val, .nilIface]) (by simp [results, Tryd.results111, go_sem, Fil.val]) rfl ⟨rfl, ?_⟩
  exact ((Below.refl _ _).alloc (Nat.le_refl _) _).alloc (by simp) _

set_option maxHeartbeats 1000000 in
set_option maxRecDepth 1000000 in
theorem find_none (b n : Nat) (L : List Fil) (s : ByteArray) (a0 a1 a2 a3 a4 : Addr) (w : World) (hM : MapF w b n L) (hs : s.size ≤ maxLen) (hE : Errs w a0 a1 a2 a3 a4) (hf : findF L s = none) :
    Calls Tryd.prog 111 #[.map (some b), .string s] w fun e w' => e = .returned (.tuple #[zeroFil.val, errV a2]) ∧ Below w.heap.size w w' := by
  have hM1 := World.ownsMap.alloc hM (.cells #[.string ⟨#[]⟩, .string ⟨#[]⟩, .int .i64 0] 84)
  have hb0 : Below w.heap.size w ((w.alloc (.cells #[.string ⟨#[]⟩, .string ⟨#[]⟩, .int .i64 0] 84)).alloc (.cells #[.string ⟨#[]⟩, .string ⟨#[]⟩, .int .i64 0] 84)) := ((Below.refl _ _).alloc (Nat.le_refl _) _).alloc (by simp) _
  have e2 := (hE.below hb0).1.2.2.1
  go_enter Tryd.func111, Tryd.ntmps111
  go_wp2_with (at_lookup; refine wpList_lookup_own_ok _ rfl _ _ 88 rfl 9 84 keyed Tryd.underlying88 _ (zeroFile _) (fileD zeroFil) [] (filElem_mk _) b n _ rfl hM1 _ _ rfl (key_mk hs) ?_)
  intro v ps hv
  rw [at_D, hf] at hv
  have hv' := filElem_inv hv
  have hh : Maps.has (DataW.map (L.map ent)) (.string s.data.toList) = false := by rw [has_D, hf]; rfl
  rw [hh, hv']
  unfold Fil.val zeroFil
  go_wp2
  go_region
  go_wp2
  have hk := ((Blk.fresh w 84 [.string ⟨#[]⟩, .string ⟨#[]⟩, .int .i64 0]).alloc (.cells #[.string ⟨#[]⟩, .string ⟨#[]⟩, .int .i64 0] 84)).drew
  have d0 := hk.cell (i := 0) rfl
  have d1 := hk.cell (i := 1) rfl
  have d2 := hk.cell (i := 2) rfl
  refine bodyPost_ret (v := .tuple #[zeroFil.val, errV a2]) (by simp [results, Tryd.results111, go_sem, Fil.val, zeroFil, d0, d1, d2]) rfl ⟨rfl, ?_⟩
  exact below_drew hb0

theorem tooLong_any (s : ByteArray) (w : World) (hs : s.size ≤ maxLen) : Calls Tryd.prog 48 #[.string s] w fun e w' => e = .returned (.bool (decide (20000 < s.size))) ∧ w' = w := by
  unfold maxLen at hs
  go_enter Tryd.func48, Tryd.ntmps48
  go_wp2
  go_ret
  exact ⟨retB (by simp; omega), rfl⟩
end Go.Proofs.YtapnmnghdgkbpaaDoor
