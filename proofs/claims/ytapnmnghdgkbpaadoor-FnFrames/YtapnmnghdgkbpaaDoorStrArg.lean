/- Slices of strings as arguments of the exact laws. -/
import Derived.Test.YtapnmnghdgkbpaaDoorStr
import Derived.Test.YtapnmnghdgkbpaaDoorRowk
import Derived.SliceStrings
namespace Go.Proofs.YtapnmnghdgkbpaaDoor
open Go.RowKit Go.ChangeShapes Go.WideShapes
set_option linter.unusedVariables false

theorem cellsStr1 : Tryd.prog.cellsOf 9 = 1 := by kernel_rfl
set_option maxRecDepth 1000000 in
theorem strs_arg {H : Type} {enc : TypeId × Value → H} {W : World} {r : Reach} {b0 : Nat} {v : Value} {d : DataW H} {p : List MemPlace} (hval : Value.okWide Tryd.prog W r b0 23 v) (h : DataW.Trod enc Tryd.prog W 0 (fun _ => true) true 23 v d p) :
    ∃ A L c, v = .slice A L.length c ∧ Strs W W.heap.size A L ∧ ∀ s ∈ L, s.size ≤ maxLen := by
  obtain ⟨A, n, c, rfl⟩ := okWide_slice Tryd.underlying23 hval
  obtain ⟨m, hm⟩ := h
  have hm' : DataW.trod enc Tryd.prog W 0 (fun _ => true) true m 23 [.slice A n c] = some (d, p) := hm
  rcases open_strings Tryd.underlying23 Tryd.underlying9 cellsStr1 hm' with ⟨h1, _⟩ | ⟨a, len, cap, zs, h1, _, hl, hc, hz, _, hcell, hwf⟩
  · injection h1 with h1 _
    cases h1
    exact ⟨none, [], 0, rfl, ⟨by simp [maxLen], fun i h => absurd h (by simp)⟩, fun s h => absurd h (by simp)⟩
  · injection h1 with h1 _
    cases h1
    have hzl : zs.length = c := by simpa using hz
    have htl : (zs.take n).length = n := by simp; omega
    refine ⟨some a, zs.take n, c, by rw [htl], ⟨by rw [htl]; omega, fun i hi => ?_⟩, fun s hs => hwf s (List.mem_of_mem_take hs)⟩
    have hi' : i < zs.length := by rw [htl] at hi; omega
    have hc1 := hcell i hi'
    have hg : zs.getD i ByteArray.empty = (zs.take n)[i] := by rw [List.getElem_take]; simp [List.getD, hi']
    rw [hg] at hc1
    exact ⟨a, rfl, by have := World.block_lt_of_cell? W _ hc1; rw [add_blk] at this; exact this, hc1⟩
theorem Rw.strs {w : World} {lo hi n c : Nat} {A : Option Addr} {L : List ByteArray} (h : Rw w lo hi 9 1 (.slice A n c) L.length (L.map Value.string)) : Strs w w.heap.size A L := (OwnS.strs (base := lo) (c := c) (n := n) h.1).2

theorem markS_rw (A : Option Addr) (L : List ByteArray) (c lo hi k : Nat) (w : World) (h : Rw w lo hi 9 1 (.slice A L.length c) L.length (L.map Value.string)) (h0 : 1 ≤ k) (h1 : k + L.length ≤ 4000000) :
    Calls Tryd.prog 64 #[.slice A L.length c, .int .i64 k] w fun e w' => e = .returned (.int .i64 ((k + L.length : Nat) : Int)) ∧
      Rw w' lo hi 9 1 (.slice A L.length c) (markN L.length k).length ((markN L.length k).map Value.string) ∧ w.grownBy w' (A.map (·.block)) :=
  (markStringS_any A L c lo k w h.1 h0 h1).mono fun e w' ⟨he, h2, h3⟩ => ⟨he, ⟨h2, h.2⟩, h3⟩

end Go.Proofs.YtapnmnghdgkbpaaDoor
