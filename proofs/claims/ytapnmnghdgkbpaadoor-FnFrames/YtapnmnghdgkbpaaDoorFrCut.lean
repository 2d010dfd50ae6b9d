/- The contract of frameCut; the bytes of a converted string. -/
import Derived.Test.YtapnmnghdgkbpaaDoorFr
import Derived.Test.YtapnmnghdgkbpaaDoorOwnB
import Derived.Lib.SlBytesRow
namespace Go.Proofs.YtapnmnghdgkbpaaDoor
open Go.RowKit
set_option linter.unusedVariables false

/-- The slice v holds the bytes of s, in a block below B. -/
def Dat (w : World) (B : Nat) (v : Value) (s : ByteArray) : Prop := ∃ g cap, v = .slice (some ⟨g, 0, none⟩) s.size cap ∧ g < B ∧ s.size ≤ cap ∧ Lib.Bytes w g 0 s
theorem Dat.below {w w' : World} {B : Nat} {v : Value} {s : ByteArray} (h : Dat w B v s) (hb : Below B w w') : Dat w' B v s := by
  obtain ⟨g, cap, rfl, h1, h2, h3⟩ := h
  refine ⟨g, cap, rfl, h1, h2, ?_⟩
  intro i hi
  have := h3 i hi
  rw [World.cell?_of_block (hb.block g h1)]
  exact this

set_option maxHeartbeats 1000000 in
set_option maxRecDepth 1000000 in
theorem frameCut_any (v : Value) (s : ByteArray) (p B : Nat) (w : World) (hB : Dat w B v s) (hp : p ≤ s.size) (hs : s.size ≤ 20000) :
    Calls Tryd.prog 91 #[v, .int .i64 p] w fun e w' => e = .returned (.string (s.extract p (min (p + 1006) s.size))) ∧ w' = w := by
  obtain ⟨g, cap, rfl, h1, h2, h3⟩ := hB
  have hc : (convert 22 9 (.slice (some ⟨g, p, none⟩) ((min ((p : Int) + 1006) (s.size : Int)).toNat - p) ((min ((p : Int) + 1006) (s.size : Int)).toNat - p))).run Tryd.prog w = .ok (.string (s.extract p (min (p + 1006) s.size))) w := by
    have hm : (min ((p : Int) + 1006) (s.size : Int)).toNat = min (p + 1006) s.size := by omega
    rw [hm]
    have h := Lib.run_convert_window (P := Tryd.prog) w 22 5 9 Tryd.underlying22 Tryd.underlying5 Tryd.underlying9 g 0 s h3 p (min (p + 1006) s.size - p) (min (p + 1006) s.size - p) (by omega)
    rw [Nat.zero_add, show p + (min (p + 1006) s.size - p) = min (p + 1006) s.size by omega] at h
    exact h
  have hc0 : (convert 22 9 (.slice (some ⟨g, 0, none⟩) 0 0)).run Tryd.prog w = .ok (.string ⟨#[]⟩) w := by
    have h := Lib.run_convert_window (P := Tryd.prog) w 22 5 9 Tryd.underlying22 Tryd.underlying5 Tryd.underlying9 g 0 s h3 0 0 0 (by omega)
    rw [show s.extract 0 (0 + 0) = ⟨#[]⟩ from ByteArray.ext (by simp)] at h
    exact h
  go_enter Tryd.func91, Tryd.ntmps91
  go_wp2
  · have h : (min ((p : Int) + 1006) (s.size : Int)).toNat = p := by assumption
    go_ret
    refine ⟨retS ?_, rfl⟩
    rw [show min (p + 1006) s.size = p by omega]
    exact (ByteArray.ext (by simp)).symm
  · go_ret
    exact ⟨rfl, rfl⟩
end Go.Proofs.YtapnmnghdgkbpaaDoor
